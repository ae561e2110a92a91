/-
  THE DOCUMENT's text.
-/
import Derived.Test.YtffneogphgodnaaDoorRef0
import Derived.Test.YtffneogphgodnaaDoorCov
import Derived.Deep.QuietTactic
import Derived.BigQuiet
import Derived.BigRegion
namespace Go.Proofs.YtffneogphgodnaaDoor
open Go.RowKit
theorem below_drew {B : Nat} {a w : World} (h : Below B a w) : Below B a w.drew := ⟨h.os, h.tape, h.output, h.size, h.block⟩
set_option maxHeartbeats 4000000 in
set_option maxRecDepth 100000 in
/-- the document's text, from a quote at a on -/
theorem rtext_any (s : ByteArray) (a : Nat) (ha : a < s.size) (hs : s.size ≤ 4096) (w : World) : Calls Tryd.prog 35 #[.string s, .int .i64 a] w (Ond w s a (textT (rst s a))) := by
  generalize hy : w.heap.size = Y at *
  obtain ⟨w0, hw0, N0, B0⟩ : ∃ w0, w0 = w.alloc (.cells #[.int .i64 0, .int .i64 0, .string ⟨#[]⟩, .int .i64 0, .string ⟨#[]⟩] 39) ∧ Blk w0 Y 39 #[.int .i64 0, .int .i64 0, .string ⟨#[]⟩, .int .i64 0, .string ⟨#[]⟩] ∧ Below Y w w0 :=
    ⟨_, rfl, by rw [← hy]; exact Blk.new w 39 _, by rw [← hy]; exact (Below.refl _ _).alloc (Nat.le_refl _) _⟩
  have W0 := Lib.hid hw0
  have N0h := Lib.hid N0
  have B0h := Lib.hid B0
  clear hw0 N0 B0
  go_enter Tryd.func35, Tryd.ntmps35
  go_wp2_with fail
  rw [← W0.out]
  go_loop [6] (fun i => ∃ k : Nat, i = .int .i64 (a + 1 + k : Nat) ∧ a + 1 + k ≤ s.size ∧ Hid (∀ j, j < k → ∀ h : a + 1 + j < s.size, textB (s[a + 1 + j].toNat : Int) = true)) (fun i => s.size - (intOf i).toNat)
  case atStart => exact ⟨0, by go_num, by omega, Lib.hid (fun j hj => absurd hj (Nat.not_lt_zero j))⟩
  case round =>
    obtain ⟨k, rfl, hk, hall⟩ := hrel
    by_cases hks : a + 1 + k < s.size
    · have E0 := Lib.hid (fun h => span_at_stop (p := textB) hks hall.out h)
      have E1 := Lib.hid (fun h => all_next (p := textB) hks hall.out h)
      have TXo := Lib.hid (fun h39 hsp h64 => tx_ok (s := s) (a := a) (k := k) hks h39 hsp h64)
      have TXn := Lib.hid (fun hsp h => tx_no (s := s) (a := a) (k := k) hsp h)
      have hw1 : IntKind.i64.wrap ((a + 1 + k : Nat) - (a : Int)) = (k : Int) + 1 := by rw [show ((a + 1 + k : Nat) : Int) - (a : Int) = (k : Int) + 1 by omega]; exact IntWalk.i64_in _ (by omega)
      have hk4 : k ≤ 4096 := by omega
      have HZ := Lib.hid (show ∃ z, z = a + 1 + k from ⟨_, rfl⟩)
      generalize hz : a + 1 + k = z at *
      have HZ := Lib.hid hz
      clear hz
      generalize hc : (s[z].toNat : Int) = c at *
      by_cases h39 : c = 39
      · subst h39
        have hzs : ((z : Int) == (s.size : Int)) = false := by simp; omega
        by_cases h64 : k ≤ 64
        · have h64' : decide (64 < (k : Int)) = false := by simp; omega
          have RES := Lib.hid (TXo.out rfl (E0.out rfl) h64)
          have hzk := HZ.out
          have hw2 : IntKind.i64.wrap ((z : Int) + 1) = ((z + 1 : Nat) : Int) := IntWalk.i64_in _ (by omega)
          have hw3 : IntKind.i64.wrap ((a : Int) + 1) = ((a + 1 : Nat) : Int) := IntWalk.i64_in _ (by omega)
          clear E0 E1 TXo TXn
          go_wp2_with fail
          have z0 := N0h.out.cell 0
          have z1 := N0h.out.cell 1
          have z2 := N0h.out.cell 2
          have z3 := N0h.out.cell 3
          have z4 := N0h.out.cell 4
          have f0 := N0h.out.free 0
          have f1 := N0h.out.free 1
          have f2 := N0h.out.free 2
          have f3 := N0h.out.free 3
          have f4 := N0h.out.free 4
          obtain ⟨w5, hw5, N5, B5⟩ : ∃ w5, w5 = ((((w0.setCell ⟨Y, 0, none⟩ (.int .i64 3)).setCell ⟨Y, 1, none⟩ (.int .i64 a)).setCell ⟨Y, 2, none⟩ (.string (s.extract a (z + 1)))).setCell ⟨Y, 3, none⟩ (.int .i64 0)).setCell ⟨Y, 4, none⟩ (.string (s.extract (a + 1) z)) ∧ Blk w5 Y 39 #[.int .i64 3, .int .i64 a, .string (s.extract a (z + 1)), .int .i64 0, .string (s.extract (a + 1) z)] ∧ Below Y w w5 :=
            ⟨_, rfl, ((((N0h.out.set 0 _).set 1 _).set 2 _).set 3 _).set 4 _, ((((B0h.out.setCell (p := ⟨Y, 0, none⟩) (Nat.le_refl _) _).setCell (p := ⟨Y, 1, none⟩) (Nat.le_refl _) _).setCell (p := ⟨Y, 2, none⟩) (Nat.le_refl _) _).setCell (p := ⟨Y, 3, none⟩) (Nat.le_refl _) _).setCell (p := ⟨Y, 4, none⟩) (Nat.le_refl _) _⟩
          have W5 := Lib.hid hw5
          have N5h := Lib.hid N5
          have B5h := Lib.hid B5
          clear hw5 N5 B5
          go_region
          go_wp2_with fail
          rw [← W5.out]
          have y0 := N5h.out.cell 0
          have y1 := N5h.out.cell 1
          have y2 := N5h.out.cell 2
          have y3 := N5h.out.cell 3
          have y4 := N5h.out.cell 4
          refine bodyPost_ret (by simp [results, Tryd.results35, go_sem, y0, y1, y2, y3, y4]; try rfl) rfl ?_
          rw [RES.out]
          refine ond_ok (by simp) ⟨rfl, rfl, ?_, rfl, ?_⟩ (by rw [hy]; exact below_drew B5h.out)
          · rw [rst_sub s a (k + 2) (by omega), show a + (k + 2) = z + 1 by omega]
          · rw [rst_sub s (a + 1) k (by omega), show a + 1 + k = z by omega]
        · have h64' : decide (64 < (k : Int)) = true := by simp; omega
          have RES := Lib.hid (TXn.out (E0.out rfl) (.inl (by omega)))
          clear E0 E1 TXo TXn
          obtain ⟨w5, hw5, N5, B5⟩ : ∃ w5, w5 = ((((w0.setCell ⟨Y, 0, none⟩ (.int .i64 0)).setCell ⟨Y, 1, none⟩ (.int .i64 0)).setCell ⟨Y, 2, none⟩ (.string ⟨#[]⟩)).setCell ⟨Y, 3, none⟩ (.int .i64 0)).setCell ⟨Y, 4, none⟩ (.string ⟨#[]⟩) ∧ Blk w5 Y 39 #[.int .i64 0, .int .i64 0, .string ⟨#[]⟩, .int .i64 0, .string ⟨#[]⟩] ∧ Below Y w w5 :=
            ⟨_, rfl, ((((N0h.out.set 0 _).set 1 _).set 2 _).set 3 _).set 4 _, ((((B0h.out.setCell (p := ⟨Y, 0, none⟩) (Nat.le_refl _) _).setCell (p := ⟨Y, 1, none⟩) (Nat.le_refl _) _).setCell (p := ⟨Y, 2, none⟩) (Nat.le_refl _) _).setCell (p := ⟨Y, 3, none⟩) (Nat.le_refl _) _).setCell (p := ⟨Y, 4, none⟩) (Nat.le_refl _) _⟩
          have W5 := Lib.hid hw5
          have N5h := Lib.hid N5
          have B5h := Lib.hid B5
          clear hw5 N5 B5
          have z0 := N0h.out.cell 0
          have z1 := N0h.out.cell 1
          have z2 := N0h.out.cell 2
          have z3 := N0h.out.cell 3
          have z4 := N0h.out.cell 4
          have f0 := N0h.out.free 0
          have f1 := N0h.out.free 1
          have f2 := N0h.out.free 2
          have f3 := N0h.out.free 3
          have f4 := N0h.out.free 4
          go_wp2_with fail
          rw [← W5.out]
          have y0 := N5h.out.cell 0
          have y1 := N5h.out.cell 1
          have y2 := N5h.out.cell 2
          have y3 := N5h.out.cell 3
          have y4 := N5h.out.cell 4
          refine bodyPost_ret (by simp [results, Tryd.results35, go_sem, y0, y1, y2, y3, y4]; try rfl) rfl ?_
          exact ond_no RES.out (by rw [hy]; exact B5h.out)
      · by_cases h1 : c = 10 ∨ c = 13
        · have RES := Lib.hid (TXn.out (E0.out (by rcases h1 with rfl | rfl <;> rfl)) (.inr (.inr ⟨hks, by rw [hc]; exact h39⟩)))
          have hzs : ((z : Int) == (s.size : Int)) = false := by simp; omega
          clear E0 E1 TXo TXn
          rcases h1 with rfl | rfl
          all_goals
            obtain ⟨w5, hw5, N5, B5⟩ : ∃ w5, w5 = ((((w0.setCell ⟨Y, 0, none⟩ (.int .i64 0)).setCell ⟨Y, 1, none⟩ (.int .i64 0)).setCell ⟨Y, 2, none⟩ (.string ⟨#[]⟩)).setCell ⟨Y, 3, none⟩ (.int .i64 0)).setCell ⟨Y, 4, none⟩ (.string ⟨#[]⟩) ∧ Blk w5 Y 39 #[.int .i64 0, .int .i64 0, .string ⟨#[]⟩, .int .i64 0, .string ⟨#[]⟩] ∧ Below Y w w5 :=
              ⟨_, rfl, ((((N0h.out.set 0 _).set 1 _).set 2 _).set 3 _).set 4 _, ((((B0h.out.setCell (p := ⟨Y, 0, none⟩) (Nat.le_refl _) _).setCell (p := ⟨Y, 1, none⟩) (Nat.le_refl _) _).setCell (p := ⟨Y, 2, none⟩) (Nat.le_refl _) _).setCell (p := ⟨Y, 3, none⟩) (Nat.le_refl _) _).setCell (p := ⟨Y, 4, none⟩) (Nat.le_refl _) _⟩
            have W5 := Lib.hid hw5
            have N5h := Lib.hid N5
            have B5h := Lib.hid B5
            clear hw5 N5 B5
            have z0 := N0h.out.cell 0
            have z1 := N0h.out.cell 1
            have z2 := N0h.out.cell 2
            have z3 := N0h.out.cell 3
            have z4 := N0h.out.cell 4
            have f0 := N0h.out.free 0
            have f1 := N0h.out.free 1
            have f2 := N0h.out.free 2
            have f3 := N0h.out.free 3
            have f4 := N0h.out.free 4
            go_wp2_with fail
            rw [← W5.out]
            have y0 := N5h.out.cell 0
            have y1 := N5h.out.cell 1
            have y2 := N5h.out.cell 2
            have y3 := N5h.out.cell 3
            have y4 := N5h.out.cell 4
            refine bodyPost_ret (by simp [results, Tryd.results35, go_sem, y0, y1, y2, y3, y4]; try rfl) rfl ?_
            exact ond_no RES.out (by rw [hy]; exact B5h.out)
        · have E := Lib.hid (E1.out (by unfold textB; simp only [not_or] at h1; simp [h39, h1.1, h1.2]))
          have d1 : (c != 39) = true := by simpa using h39
          have d2 : (c != 10) = true := by simp only [not_or] at h1; simpa using h1.1
          have d3 : (c != 13) = true := by simp only [not_or] at h1; simpa using h1.2
          clear E0 E1 TXo TXn
          go_wp2_with fail
          go_round
          case rel => exact ⟨k + 1, by rw [← HZ.out]; go_num, by have := HZ.out; omega, E⟩
          case measure => simp [intOf]; omega
    · have hz : a + 1 + k = s.size := by omega
      have RES := Lib.hid (tx_no (s := s) (a := a) (k := k) (span_at_all (p := textB) hz hall.out) (.inr (.inl (by omega))))
      rw [hz]
      have hss : ((s.size : Int) == (s.size : Int)) = true := by simp
      obtain ⟨w5, hw5, N5, B5⟩ : ∃ w5, w5 = ((((w0.setCell ⟨Y, 0, none⟩ (.int .i64 0)).setCell ⟨Y, 1, none⟩ (.int .i64 0)).setCell ⟨Y, 2, none⟩ (.string ⟨#[]⟩)).setCell ⟨Y, 3, none⟩ (.int .i64 0)).setCell ⟨Y, 4, none⟩ (.string ⟨#[]⟩) ∧ Blk w5 Y 39 #[.int .i64 0, .int .i64 0, .string ⟨#[]⟩, .int .i64 0, .string ⟨#[]⟩] ∧ Below Y w w5 :=
        ⟨_, rfl, ((((N0h.out.set 0 _).set 1 _).set 2 _).set 3 _).set 4 _, ((((B0h.out.setCell (p := ⟨Y, 0, none⟩) (Nat.le_refl _) _).setCell (p := ⟨Y, 1, none⟩) (Nat.le_refl _) _).setCell (p := ⟨Y, 2, none⟩) (Nat.le_refl _) _).setCell (p := ⟨Y, 3, none⟩) (Nat.le_refl _) _).setCell (p := ⟨Y, 4, none⟩) (Nat.le_refl _) _⟩
      have W5 := Lib.hid hw5
      have N5h := Lib.hid N5
      have B5h := Lib.hid B5
      clear hw5 N5 B5
      have z0 := N0h.out.cell 0
      have z1 := N0h.out.cell 1
      have z2 := N0h.out.cell 2
      have z3 := N0h.out.cell 3
      have z4 := N0h.out.cell 4
      have f0 := N0h.out.free 0
      have f1 := N0h.out.free 1
      have f2 := N0h.out.free 2
      have f3 := N0h.out.free 3
      have f4 := N0h.out.free 4
      go_wp2_with fail
      rw [← W5.out]
      have y0 := N5h.out.cell 0
      have y1 := N5h.out.cell 1
      have y2 := N5h.out.cell 2
      have y3 := N5h.out.cell 3
      have y4 := N5h.out.cell 4
      refine bodyPost_ret (by simp [results, Tryd.results35, go_sem, y0, y1, y2, y3, y4]; try rfl) rfl ?_
      exact ond_no RES.out (by rw [hy]; exact B5h.out)
end Go.Proofs.YtffneogphgodnaaDoor
