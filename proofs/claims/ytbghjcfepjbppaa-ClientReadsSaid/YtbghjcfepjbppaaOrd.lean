/-
  THE DOCUMENT's Order OF TWO EQUAL LISTS.
-/
import Derived.Test.YtbghjcfepjbppaaRdc
import Derived.BigQuiet
import Derived.Deep.QuietTactic
namespace Go.Proofs.Ytbghjcfepjbppaa
open Go.RowKit
set_option maxHeartbeats 2000000 in
set_option maxRecDepth 100000 in
theorem order_same {w : World} {a b : Option Addr} {xs : List Int} (ca cb : Nat) (ha : Bk.Nums w a xs) (hb : Bk.Nums w b xs) (hl : xs.length ≤ 9223372036854775000) :
    Calls Try.prog 27 #[.slice a xs.length ca, .slice b xs.length cb] w fun e w' => e = .returned (.int .i64 0) ∧ Below w.heap.size w w' := by
  have HA := Lib.hid ha
  have HB := Lib.hid hb
  have B0 := Lib.hid (Below.refl w.heap.size w)
  have hlI : (xs.length : Int) ≤ 9223372036854775000 := by omega
  obtain ⟨n, hn⟩ : ∃ n, n = xs.length := ⟨_, rfl⟩
  have HN := Lib.hid hn
  rw [← hn] at hlI ⊢
  clear ha hb hl hn
  go_enter Try.func27, Try.ntmps27
  go_wp2_with fail
  go_loopw [5] (fun i wr => ∃ (j : Nat), i = .int .i64 j ∧ j ≤ n ∧ Hid (Below w.heap.size w wr)) (fun i wr => n - (intOf i).toNat)
  case atStart => exact ⟨0, rfl, Nat.zero_le _, B0⟩
  case round =>
    obtain ⟨j, rfl, hj, hB⟩ := hrel
    clear B0
    by_cases hjn : j < n
    · have jI : (j : Int) < (n : Int) := by omega
      have jB := decide_eq_true jI
      have hjL : j < xs.length := by rw [← HN.out]; exact hjn
      obtain ⟨ga, oa, rfl, hga, cka⟩ := HA.out j hjL
      obtain ⟨gb, ob, rfl, hgb, ckb⟩ := HB.out j hjL
      have ca' : ∀ d, (wr.drewN d).cell? ⟨ga, oa + j, none⟩ = some (.int .i64 xs[j]) := fun d => (hB.out.cell (p := ⟨ga, _, none⟩) hga).trans cka
      have cb' : ∀ d, (wr.drewN d).cell? ⟨gb, ob + j, none⟩ = some (.int .i64 xs[j]) := fun d => (hB.out.cell (p := ⟨gb, _, none⟩) hgb).trans ckb
      have ca0 : wr.cell? ⟨ga, oa + j, none⟩ = some (.int .i64 xs[j]) := (hB.out.cell (p := ⟨ga, _, none⟩) hga).trans cka
      have cb0 : wr.cell? ⟨gb, ob + j, none⟩ = some (.int .i64 xs[j]) := (hB.out.cell (p := ⟨gb, _, none⟩) hgb).trans ckb
      have BD := Lib.hid (fun d => drewB hB.out d)
      clear cka ckb hB
      generalize xs[j] = x at *
      go_wp2_with fail
      go_quiet (fail)
      go_wp2_with fail
      go_quiet (fail)
      go_wp2_with fail
      go_roundw
      case rel => exact ⟨j + 1, by go_num, by omega, Lib.hid (BD.out _)⟩
      case measure => simp [intOf]; omega
    · obtain rfl : j = n := by omega
      have jI : ¬ (j : Int) < (j : Int) := by omega
      go_wp2_with fail
      go_ret
      exact ⟨rfl, hB.out⟩
end Go.Proofs.Ytbghjcfepjbppaa
