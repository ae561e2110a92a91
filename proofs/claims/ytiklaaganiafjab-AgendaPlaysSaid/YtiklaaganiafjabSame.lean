/-
  FOR AgendaPlays: two lists of items in memory, the same?
-/
import Derived.Test.YtiklaaganiafjabSrc
namespace Go.Proofs.Ytiklaaganiafjab
open Go.RowKit
/-- items in memory, from an address on -/
def Its (w : World) (a : Option Addr) (R : List It) : Prop := ∀ p (h : p < R.length), ∃ g o, a = some ⟨g, o, none⟩ ∧ g < w.heap.size ∧ w.cell? ⟨g, o + p * 3, none⟩ = some (.int .i64 R[p].t) ∧ w.cell? ⟨g, o + p * 3 + 1, none⟩ = some (.int .i64 R[p].i) ∧ w.cell? ⟨g, o + p * 3 + 2, none⟩ = some (.int .i64 R[p].x)
theorem Its.below {w w' : World} {a : Option Addr} {R : List It} (h : Its w a R) (hb : Below w.heap.size w w') : Its w' a R := fun p hp => by
  obtain ⟨g, o, e, hl, c1, c2, c3⟩ := h p hp
  exact ⟨g, o, e, Nat.lt_of_lt_of_le hl hb.size, by rw [hb.cell (p := ⟨g, _, none⟩) hl]; exact c1, by rw [hb.cell (p := ⟨g, _, none⟩) hl]; exact c2, by rw [hb.cell (p := ⟨g, _, none⟩) hl]; exact c3⟩
theorem its_nil (w : World) (a : Option Addr) : Its w a [] := fun p hp => by simp at hp
theorem its_row {w : World} {B g cap : Nat} {l : List It} (h : RowG w B g cap l) (hg : g < w.heap.size) : Its w (some ⟨g, 0, none⟩) l := fun p hp => by
  obtain ⟨c1, c2, c3⟩ := h.cell hp
  exact ⟨g, 0, rfl, hg, by rw [Nat.zero_add]; exact c1, by rw [Nat.zero_add]; exact c2, by rw [Nat.zero_add]; exact c3⟩
set_option maxHeartbeats 2000000 in
set_option maxRecDepth 100000 in
theorem same_any (a a' : Option Addr) (c c' : Nat) (R : List It) (w : World) (hR : R.length ≤ 281474976710656) (h : Its w a R) (h' : Its w a' R) :
    Calls Try.prog 13 #[.slice a R.length c, .slice a' R.length c'] w fun e w' => e = .returned (.bool true) ∧ Below w.heap.size w w' := by
  have H := Lib.hid h
  have H' := Lib.hid h'
  clear h h'
  generalize hn : R.length = n at *
  have HN := Lib.hid hn
  clear hn
  go_enter Try.func13, Try.ntmps13
  go_wp2_with fail
  go_loopw [5] (fun i wq => ∃ (k : Nat), i = .int .i64 k ∧ k ≤ n ∧ Below w.heap.size w wq) (fun i _ => n - (intOf i).toNat)
  case atStart => exact ⟨0, rfl, Nat.zero_le _, Below.refl _ _⟩
  case round =>
    obtain ⟨k, rfl, hk, hB⟩ := hrel
    have HB := Lib.hid hB
    by_cases hkn : k < n
    · obtain ⟨g, o, rfl, hg, c1, c2, c3⟩ := H.out k (by rw [HN.out]; exact hkn)
      obtain ⟨g', o', rfl, hg', d1, d2, d3⟩ := H'.out k (by rw [HN.out]; exact hkn)
      rw [← hB.cell (p := ⟨g, _, none⟩) hg] at c1 c2 c3
      rw [← hB.cell (p := ⟨g', _, none⟩) hg'] at d1 d2 d3
      generalize R[k]'(by rw [HN.out]; exact hkn) = x at *
      generalize x.t = t at *
      generalize x.i = i at *
      generalize x.x = v at *
      clear hB
      go_wp2_with fail
      go_quiet (fail)
      have B2 := Lib.hid (HB.out.trans ((below_drewN (Below.refl wr.heap.size wr) nq).mono HB.out.size))
      clear c1 c2 c3 d1 d2 d3
      go_wp2_with fail
      go_roundw
      case rel => exact ⟨k + 1, by go_num, by omega, B2.out⟩
      case measure => simp [intOf]; omega
    · obtain rfl : k = n := by omega
      clear hB
      go_wp2_with fail
      go_ret
      exact ⟨by simp, HB.out⟩
end Go.Proofs.Ytiklaaganiafjab
