/-
  THE DOCUMENT'S TABLE: seq, without.
-/
import Derived.Test.YtkaocpfkigdpoaaSme
namespace Go.Proofs.Ytkaocpfkigdpoaa
open Go.RowKit
theorem sq_first {id : Int} : ∀ {L : List Sn} {j : Nat} (hj : j < L.length), (∀ t (h : t < L.length), t < j → L[t].1 ≠ id) → L[j].1 = id → sq id L = L[j].2
  | x :: r, 0, _, _, e => by
    have e : x.1 = id := e
    unfold sq; rw [if_pos e]; rfl
  | x :: r, j + 1, hj, h, e => by
    unfold sq
    rw [if_neg (show ¬ x.1 = id from h 0 (by simp) (by omega))]
    exact sq_first (L := r) (by simpa using hj) (fun t ht htj => h (t + 1) (by simpa using ht) (by omega)) e
set_option maxHeartbeats 2000000 in
set_option maxRecDepth 100000 in
theorem seq_any {w : World} {v : Value} {L : List Sn} (id : Int) (h : Ses w v L) (hl : L.length ≤ 1000) : Calls Try.prog 25 #[.agg #[v], .int .i64 id] w fun e w' => e = .returned (.int .i64 (sq id L)) ∧ Below w.heap.size w w' := by
  obtain ⟨a, c, rfl, f⟩ := h
  obtain ⟨W1, hW1⟩ : ∃ W1, W1 = w.alloc (.cells #[.slice a L.length c] 27) := ⟨_, rfl⟩
  have k1 : Blk W1 w.heap.size 27 #[.slice a L.length c] := by rw [hW1]; exact Blk.new _ _ _
  have b1 : Below w.heap.size w W1 := by rw [hW1]; exact (Below.refl _ w).alloc (Nat.le_refl _) _
  have F := Lib.hid f
  have HW := Lib.hid hW1
  have B1 := Lib.hid b1
  have c0 : W1.cell? ⟨w.heap.size, 0, none⟩ = some (.slice a L.length c) := k1.cell 0
  have SF := Lib.hid (fun j (hj : j < L.length) (h : ∀ t (h : t < L.length), t < j → L[t].1 ≠ id) (e : L[j].1 = id) => sq_first hj h e)
  have SO := Lib.hid (fun (h : ∀ k (h : k < L.length), L[k].1 ≠ id) => sq_out h)
  have hl2 : (L.length : Int) ≤ 1000 := by omega
  generalize hq : sq id L = q at *
  clear f hW1 k1 b1 hq
  go_enter Try.func25, Try.ntmps25
  go_wp2_with fail
  rw [← HW.out]
  go_loopw [5] (fun i wq => ∃ (j : Nat), i = .int .i64 j ∧ j ≤ L.length ∧ wq = W1 ∧ Hid (∀ t (h : t < L.length), t < j → L[t].1 ≠ id)) (fun i _ => L.length - (intOf i).toNat)
  case atStart => exact ⟨0, rfl, Nat.zero_le _, rfl, Lib.hid (fun t _ h => absurd h (Nat.not_lt_zero _))⟩
  case round =>
    obtain ⟨j, rfl, hj, rfl, hS⟩ := hrel
    by_cases hjn : j < L.length
    · obtain ⟨g, o, rfl, hg, c1, c2⟩ := F.out j hjn
      rw [← B1.out.cell (p := ⟨g, _, none⟩) hg] at c1 c2
      have hjI : (j : Int) < (L.length : Int) := by omega
      have S1 := Lib.hid (SF.out j hjn hS.out)
      have S2 := Lib.hid (fun (hne : L[j].1 ≠ id) t (ht : t < L.length) (htj : t < j + 1) => show L[t].1 ≠ id by
        by_cases h : t = j
        · subst h; exact hne
        · exact hS.out t ht (by omega))
      generalize L[j] = x at *
      obtain ⟨x1, x2⟩ := x
      simp only at c1 c2 S1 S2
      by_cases e : x1 = id
      · subst e
        have eq := S1.out rfl
        subst eq
        clear S1 S2 hS
        go_wp2_with fail
        go_ret
        exact ⟨rfl, B1.out⟩
      · have eB : (x1 == id) = false := by simpa using e
        have S3 := Lib.hid (S2.out e)
        clear S1 S2 hS
        go_wp2_with fail
        go_roundw
        case rel => exact ⟨j + 1, by go_num, by omega, by first | rfl | trivial, S3⟩
        case measure => simp [intOf]; omega
    · obtain rfl : j = L.length := by omega
      have eq := SO.out (fun t ht => hS.out t ht ht)
      subst eq
      clear hS
      go_wp2_with fail
      go_ret
      exact ⟨rfl, B1.out⟩
end Go.Proofs.Ytkaocpfkigdpoaa
