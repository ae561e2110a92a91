/-
  The law of SessFull as a walk.
-/
import Derived.Test.YtkaocpfkigdpoaaAwk
import Derived.Test.YtkaocpfkigdpoaaPla2
namespace Go.Proofs.Ytkaocpfkigdpoaa
open Go.RowKit
theorem mod_in (a : Int) (m : Nat) (h0 : 0 < m) (h1 : m ≤ 1000) : ∃ k : Nat, k < m ∧ (wrap64 (a.tmod m + m)).tmod m = (k : Int) := by
  have h1 := Int.tmod_lt_of_pos a (show (0 : Int) < m by omega)
  have h2 : -(m : Int) < a.tmod m := by
    have := Int.tmod_lt_of_pos (-a) (show (0 : Int) < m by omega)
    rw [Int.neg_tmod] at this
    omega
  have e : wrap64 (a.tmod m + m) = a.tmod m + m := by unfold wrap64; omega
  rw [e, Int.tmod_eq_emod_of_nonneg (by omega)]
  have h3 := Int.emod_nonneg (a.tmod m + m) (show (m : Int) ≠ 0 by omega)
  have h4 := Int.emod_lt_of_pos (a.tmod m + m) (show (0 : Int) < m by omega)
  exact ⟨((a.tmod m + m) % m).toNat, by omega, by omega⟩
set_option maxHeartbeats 2000000 in
set_option maxRecDepth 100000 in
theorem full_law (a b : Int) (w : World) : Calls Try.prog 6 #[.int .i64 a, .int .i64 b] w fun e w' => e = .returned (.bool true) ∧ Below w.heap.size w w' := by
  have N := Lib.hid (mine_new w w w.heap.size (Below.refl _ w) (Nat.le_refl _))
  have AW := Lib.hid awake_any
  have FIN := Lib.hid (fun W L (h : Mine w W w.heap.size w.heap.size L) => h.2.2.2)
  have FOP := Lib.hid (fun W L (h : Mine w W w.heap.size w.heap.size L) (id : Int) => h.open id)
  have FCL := Lib.hid (fun W L (h : Mine w W w.heap.size w.heap.size L) (id : Int) => h.close id)
  have FTK := Lib.hid (fun W L (h : Mine w W w.heap.size w.heap.size L) (id : Int) => h.take id 1)
  have FAL := Lib.hid (fun W L (h : Mine w W w.heap.size w.heap.size L) => (h.all).mono (R' := fun e w' => ∃ a c, e = Ending.returned (.slice a L.length c) ∧ Mine w w' w.heap.size w.heap.size L) (fun e w' ⟨v', he, o, m⟩ => by
    obtain ⟨a, c, rfl, _⟩ := o.form
    exact ⟨a, c, he, m⟩))
  have FNX := Lib.hid (fun W W' L (h : Mine w W w.heap.size w.heap.size L) (b : Below W.heap.size W W') => h.next b)
  obtain ⟨k, hk, ek⟩ := mod_in a 1000 (by decide) (by decide)
  obtain ⟨q, hq, eq⟩ := mod_in b 32 (by decide) (by decide)
  obtain ⟨f, hf⟩ : ∃ f : Int, f = 1 + (k : Int) := ⟨_, rfl⟩
  obtain ⟨L1, L2, L3, s1, s2, s3, s4, s5, s6, s7, s8⟩ := full_steps (f := f) (q := q) (by omega) (by omega) hq
  have ST := Lib.hid (fun (n : Nat) (hn : n < 32) => fl_open (f := f) (n := n) (by omega) (by omega) hn)
  have T0 := Lib.hid (fun W h => FTK.out W (fl f 32) h (f + 2 * (q : Int)))
  have T1 := Lib.hid (fun W h => FOP.out W L1 h (f + 1))
  have T2 := Lib.hid (fun W h => FOP.out W L1 h (f + 2 * (q : Int)))
  have T3 := Lib.hid (fun W h => FCL.out W L1 h (f + 2 * (q : Int)))
  have T4 := Lib.hid (fun W h => FCL.out W L2 h (f + 2 * (q : Int)))
  have T5 := Lib.hid (fun W h => FOP.out W L2 h (f + 1))
  have T6 := Lib.hid (fun W h => FAL.out W L3 h)
  rw [s1, s2] at T0
  rw [s3] at T1
  rw [s4] at T2
  rw [s5] at T3
  rw [s6] at T4
  rw [s7] at T5
  rw [s8] at T6
  have ek' : (wrap64 (a.tmod 1000 + 1000)).tmod 1000 = (k : Int) := ek
  have eq' : (wrap64 (b.tmod 32 + 32)).tmod 32 = (q : Int) := eq
  have hf0 : 1 ≤ f := by omega
  have hf1 : f ≤ 1000 := by omega
  have w1 : wrap64 (1 + (k : Int)) = f := by unfold wrap64; omega
  have g2 : wrap64 (2 * (q : Int)) = 2 * (q : Int) := by unfold wrap64; omega
  have g3 : wrap64 (f + 2 * (q : Int)) = f + 2 * (q : Int) := by unfold wrap64; omega
  have w4 : wrap64 (f + 1) = f + 1 := by unfold wrap64; omega
  have EK := Lib.hid ek'
  have EQ := Lib.hid eq'
  clear s1 s2 s3 s4 s5 s6 s7 s8 FCL FTK FAL ek eq hf ek' eq'
  generalize hM : Mine w = M at *
  clear hM
  go_enter Try.func6, Try.ntmps6
  go_wp2_with fail
  refine N.out.mono ?_
  rintro e w1 ⟨rfl, m1⟩
  go_wp2_with fail
  rw [EK.out]
  go_wp2_with fail
  refine (AW.out _).mono ?_
  rintro e w2 ⟨rfl, b2⟩
  have m2 := FNX.out _ _ _ m1 b2
  clear m1 b2
  go_wp2_with fail
  have m0 : M w2 w.heap.size w.heap.size (fl f 0) := m2
  go_loopw [6] (fun i wq => ∃ n : Nat, i = .int .i64 n ∧ n ≤ 32 ∧ M wq w.heap.size w.heap.size (fl f n)) (fun i _ => 32 - (intOf i).toNat)
  case atStart => exact ⟨0, rfl, Nat.zero_le _, m0⟩
  case round =>
    obtain ⟨n, rfl, hn, mr⟩ := hrel
    by_cases hlt : n < 32
    · have O := Lib.hid (FOP.out _ _ mr (f + 2 * (n : Int)))
      rw [ST.out n hlt] at O
      have x1 : wrap64 (2 * (n : Int)) = 2 * (n : Int) := by unfold wrap64; omega
      have x2 : wrap64 (f + 2 * (n : Int)) = f + 2 * (n : Int) := by unfold wrap64; omega
      clear mr m0 m2
      go_wp2_with fail
      refine O.out.mono ?_
      rintro e w3 ⟨rfl, m3⟩
      go_wp2_with fail
      go_roundw
      case rel => exact ⟨n + 1, by go_num, by omega, m3⟩
      case measure => simp [intOf]; omega
    · obtain rfl : n = 32 := by omega
      clear m0 m2
      go_wp2_with fail
      rw [EQ.out, g2, g3]
      refine (T0.out _ mr).mono ?_
      rintro e w3 ⟨rfl, m3⟩
      clear mr
      go_wp2_with fail
      refine (T1.out _ m3).mono ?_
      rintro e w5 ⟨rfl, m5⟩
      go_wp2_with fail
      refine (T2.out _ m5).mono ?_
      rintro e w6 ⟨rfl, m6⟩
      go_wp2_with fail
      refine (T3.out _ m6).mono ?_
      rintro e w7 ⟨rfl, m7⟩
      go_wp2_with fail
      refine (T4.out _ m7).mono ?_
      rintro e w8 ⟨rfl, m8⟩
      go_wp2_with fail
      refine (T5.out _ m8).mono ?_
      rintro e w9 ⟨rfl, m9⟩
      go_wp2_with fail
      refine (T6.out _ m9).mono ?_
      rintro e w10 ⟨a1, c1, rfl, m10⟩
      go_wp2_with fail
      go_ret
      exact ⟨rfl, FIN.out _ _ m10⟩
end Go.Proofs.Ytkaocpfkigdpoaa
