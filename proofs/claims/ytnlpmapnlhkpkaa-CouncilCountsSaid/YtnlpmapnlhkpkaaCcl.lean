/-
  THE LAW OF CouncilCounts, as a walk.
-/
import Derived.Test.YtnlpmapnlhkpkaaCml
namespace Go.Proofs.Ytnlpmapnlhkpkaa
open Go.RowKit
theorem rhas_q2 (m n : Int) (w : World) : Calls Try.prog 11 #[.int .i64 m, .int .i64 n] w fun e w' => e = .returned (.bool (hasB m n)) ∧ w' = w := (rhas_any m n w).mono fun _ _ ⟨a, b⟩ => ⟨a, b.symm⟩
theorem Ints.drewN {w : World} {B : Nat} {a : Option Addr} {xs : List Int} (h : Ints w B a xs) (n : Nat) : Ints (w.drewN n) B a xs := h
theorem ndL_node (k j : Nat) (h : j < (ndL k).length) : ∃ x : Nat, (ndL k)[j] = (x : Int) ∧ x < 7 ∧ bt k x = 1 := by
  have hl : j < (nodesL k).length := by unfold ndL ndTo at h; rw [List.length_map] at h; exact h
  have e : (ndL k)[j] = ((nodesL k)[j] : Int) := by simp only [ndL, ndTo, List.getElem_map]; rfl
  have := nodesTo_mem.1 (List.getElem_mem hl)
  exact ⟨(nodesL k)[j], e, this.1, this.2⟩
theorem ndL_lt (k j : Nat) (h : j + 1 < (ndL k).length) : (ndL k)[j]'(by omega) < (ndL k)[j + 1] := by
  have hl : j + 1 < (nodesL k).length := by unfold ndL ndTo at h; rw [List.length_map] at h; exact h
  have hs := List.pairwise_iff_getElem.1 (nodesTo_sorted k 7) j (j + 1) (by show j < (nodesL k).length; omega) hl (by omega)
  simp only [ndL, ndTo, List.getElem_map]
  omega
structure CS (w wq : World) (k : Nat) (a : Option Addr) : Prop where
  b : Below w.heap.size w wq
  i : Ints wq w.heap.size a (ndL k)
set_option maxHeartbeats 4000000 in
theorem counts_law (m x n : Int) (w : World) : Calls Try.prog 3 #[.int .i64 m, .int .i64 x, .int .i64 n] w (Tru2 w) := by
  go_enter Try.func3, Try.ntmps3
  go_wp2_with fail
  refine (nodes_any _ _).mono ?_
  rintro e w1 ⟨v, rfl, ho, hb⟩
  obtain ⟨a, c, rfl, hi, _⟩ := ho.ints
  have S0 : Hid (CS w w1 (kn m) a) := Lib.hid ⟨hb, hi⟩
  have HL := Lib.hid (ndL_len (kn m))
  rw [HL.out]
  clear ho hb hi
  have s7 := sz_le (kn m)
  go_wp2_with fail
  refine (rsize_any _ _).mono ?_
  rintro e w2 ⟨rfl, rfl⟩
  go_wp2_with fail
  go_loopw [8] (fun i wq => ∃ j : Nat, j ≤ sz (kn m) ∧ i = .int .i64 j ∧ CS w wq (kn m) a) (fun i _ => 8 - (intOf i).toNat)
  case atStart => exact ⟨0, by omega, rfl, S0.out⟩
  case round =>
    obtain ⟨j, hj, rfl, hs⟩ := hrel
    have SS := Lib.hid hs
    clear hs S0
    by_cases hlt : j < sz (kn m)
    · have hlt2 : j < (ndL (kn m)).length := by rw [HL.out]; exact hlt
      obtain ⟨y, hy, hy7, hbt⟩ := ndL_node (kn m) j hlt2
      have HH : hasB m y = true := by rw [hasB_bt m y hy7]; simpa using hbt
      obtain ⟨g, o, ha, _, hg, hcell⟩ := SS.out.i j hlt2
      rw [hy] at hcell
      have S2 := Lib.hid SS.out
      by_cases h0 : j = 0
      · have d0 : decide ((0 : Int) < (j : Int)) = false := by simp; omega
        have d1 : decide (0 < j) = false := by simp; omega
        subst ha
        clear hy hlt2 hbt SS h0
        go_wp2_with fail
        go_quiet ((go_at_call 11; exact Calls.quiet_of_same (rhas_q2 _ _ _)))
        go_wp2_with fail
        go_roundw
        case rel => exact ⟨j + 1, by omega, by go_num, ⟨b_drew S2.out.b _, S2.out.i.drewN _⟩⟩
        case measure => simp [intOf]; omega
      · obtain ⟨q, rfl⟩ : ∃ q, j = q + 1 := ⟨j - 1, by omega⟩
        have hlq : q < (ndL (kn m)).length := by omega
        obtain ⟨z, hz, hz7, _⟩ := ndL_node (kn m) q hlq
        obtain ⟨g', o', ha', _, _, hcell'⟩ := SS.out.i q hlq
        rw [hz] at hcell'
        have hlt3 := ndL_lt (kn m) q hlt2
        rw [hz, hy] at hlt3
        have hzy : z < y := by omega
        rw [ha] at ha'
        injection ha' with ha'
        injection ha' with e1 e2
        subst e1 e2
        subst ha
        clear hy hz hlt2 hlq hbt SS h0 hlt3
        generalize hj' : q + 1 = j at *
        have ej : ((j : Int) - 1).toNat = q := by omega
        have p0 : (0 : Int) ≤ (j : Int) - 1 := by omega
        have p1 : (j : Int) - 1 < (sz (kn m) : Int) := by omega
        have p2 : (0 : Int) < (j : Int) := by omega
        have d3 : decide (0 < j) = true := by simp; omega
        have d4 : decide ((y : Int) ≤ (z : Int)) = false := by simp; omega
        have d5 : decide (y ≤ z) = false := by simp; omega
        have HJ := Lib.hid hj'
        clear hj'
        go_wp2_with fail
        go_quiet ((go_at_call 11; exact Calls.quiet_of_same (rhas_q2 _ _ _)))
        go_wp2_with fail
        go_roundw
        case rel => exact ⟨j + 1, by omega, by go_num, ⟨b_drew S2.out.b _, S2.out.i.drewN _⟩⟩
        case measure => simp [intOf]; omega
    · obtain ej : j = sz (kn m) := by omega
      have BB := Lib.hid SS.out.b
      clear ej
      go_wp2_with (first
        | (refine awake_met _ _ fun w3 b3 => ?_; have B3 := Lib.hid (BB.out.trans (b3.mono BB.out.size)); clear b3)
        | ((with_reducible refine (has_any _ _ _).mono ?_); rintro e w' ⟨rfl, rfl⟩)
        | ((with_reducible refine (rhas_any _ _ _).mono ?_); rintro e w' ⟨rfl, rfl⟩)
        | ((with_reducible refine (size_any _ _).mono ?_); rintro e w' ⟨rfl, rfl⟩)
        | ((with_reducible refine (enough_any _ _ _).mono ?_); rintro e w' ⟨rfl, rfl⟩)
        | ((with_reducible refine (renough_any _ _ _).mono ?_); rintro e w' ⟨rfl, rfl⟩))
      go_ret
      exact ⟨rfl, B3.out⟩
end Go.Proofs.Ytnlpmapnlhkpkaa
