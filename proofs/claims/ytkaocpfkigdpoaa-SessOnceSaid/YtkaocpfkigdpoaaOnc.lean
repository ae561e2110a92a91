/-
  The law of SessOnce as a walk.
-/
import Derived.Test.YtkaocpfkigdpoaaAwk
import Derived.Test.YtkaocpfkigdpoaaOpn
namespace Go.Proofs.Ytkaocpfkigdpoaa
open Go.RowKit
theorem one_sq (id m : Int) : sq id [(id, m)] = m := by unfold sq; rw [if_pos rfl]
theorem one_put (id m s : Int) : put id s [(id, m)] = [(id, s)] := by
  unfold put pos
  rw [if_neg (by show ¬ id < id; omega)]
  rfl
theorem one_open (id : Int) (h1 : 1 ≤ id) (h2 : id ≤ 549755813888) : opT id [] = ([(id, 0)], 0) := by
  unfold opT
  rw [if_neg (by omega), if_neg (by unfold sq; omega), if_neg (by simp)]
  rfl
set_option maxHeartbeats 4000000 in
set_option maxRecDepth 100000 in
theorem once_law (id : Int) (s : Option Addr) (c : Nat) (xs : List Int) (w : World) (hl : xs.length ≤ 9223372036854775807) (hi : Ints w s xs) :
    Calls Try.prog 5 #[.int .i64 id, .slice s xs.length c] w fun e w' => e = .returned (.bool true) ∧ Below w.heap.size w w' := by
  have N := Lib.hid (mine_new w w w.heap.size (Below.refl _ w) (Nat.le_refl _))
  have HI := Lib.hid hi
  have AW := Lib.hid awake_any
  have FIN := Lib.hid (fun W L (h : Mine w W w.heap.size w.heap.size L) => h.2.2.2)
  have FOP := Lib.hid (fun W (h : Mine w W w.heap.size w.heap.size []) => h.open id)
  have FTK := Lib.hid (fun W (m s : Int) (h : Mine w W w.heap.size w.heap.size [(id, m)]) => h.take id s)
  have FNX := Lib.hid (fun W W' L (h : Mine w W w.heap.size w.heap.size L) (b : Below W.heap.size W W') => h.next b)
  have FSZ := Lib.hid (fun W L (h : Mine w W w.heap.size w.heap.size L) => h.2.2.2.size)
  clear hi
  by_cases h1 : id < 1
  · generalize hM : Mine w = M at *
    clear hM
    go_enter Try.func5, Try.ntmps5
    go_wp2_with fail
    refine N.out.mono ?_
    rintro e w1 ⟨rfl, m1⟩
    go_wp2_with fail
    refine (AW.out _).mono ?_
    rintro e w2 ⟨rfl, b2⟩
    have m2 := FNX.out _ _ _ m1 b2
    go_wp2_with fail
    refine (AW.out _).mono ?_
    rintro e w3 ⟨rfl, b3⟩
    have m3 := FNX.out _ _ _ m2 b3
    go_wp2_with fail
    go_ret
    exact ⟨rfl, FIN.out _ _ m3⟩
  by_cases h2 : 549755813888 < id
  · have h1' : 1 ≤ id := by omega
    clear h1
    generalize hM : Mine w = M at *
    clear hM
    go_enter Try.func5, Try.ntmps5
    go_wp2_with fail
    refine N.out.mono ?_
    rintro e w1 ⟨rfl, m1⟩
    go_wp2_with fail
    refine (AW.out _).mono ?_
    rintro e w2 ⟨rfl, b2⟩
    have m2 := FNX.out _ _ _ m1 b2
    go_wp2_with fail
    refine (AW.out _).mono ?_
    rintro e w3 ⟨rfl, b3⟩
    have m3 := FNX.out _ _ _ m2 b3
    go_wp2_with fail
    go_ret
    exact ⟨rfl, FIN.out _ _ m3⟩
  have h1' : 1 ≤ id := by omega
  have h2' : id ≤ 549755813888 := by omega
  rw [one_open id h1' h2'] at FOP
  clear h1 h2
  have HB : Hid (∀ W L, Mine w W w.heap.size w.heap.size L → ∀ (b o : Nat) v, b < w.heap.size → w.cell? ⟨b, o, none⟩ = some v → W.cell? ⟨b, o, none⟩ = some v) := Lib.hid fun W L h b o v hb hc => by
    rw [h.2.2.2.cell (p := ⟨b, o, none⟩) hb]; exact hc
  have STAY := Lib.hid (fun (m s : Int) (h : (mayT id s [(id, m)]).1 = false) => show tkT id s [(id, m)] = [(id, m)] by unfold tkT; rw [if_neg (by rw [h]; simp)])
  have GO := Lib.hid (fun (m s : Int) (h : (mayT id s [(id, m)]).1 = true) => show tkT id s [(id, m)] = [(id, s)] by unfold tkT; rw [if_pos h, one_put])
  have hl' : (xs.length : Int) ≤ 9223372036854775807 := by omega
  generalize hM : Mine w = M at *
  clear hM
  go_enter Try.func5, Try.ntmps5
  go_wp2_with fail
  refine N.out.mono ?_
  rintro e w1 ⟨rfl, m1⟩
  go_wp2_with fail
  refine (AW.out _).mono ?_
  rintro e w2 ⟨rfl, b2⟩
  have m2 := FNX.out _ _ _ m1 b2
  go_wp2_with fail
  refine (FOP.out _ m2).mono ?_
  rintro e w3 ⟨rfl, m3⟩
  clear m1 m2 b2
  go_wp2_with fail
  go_loopw [7, 6] (fun i nx wq => ∃ (k : Nat) (m : Int), i = .int .i64 k ∧ nx = .int .i64 (m + 1) ∧ k ≤ xs.length ∧ k ≤ 300 ∧ 0 ≤ m ∧ m ≤ (k : Int) ∧ M wq w.heap.size w.heap.size [(id, m)]) (fun i _ _ => xs.length - (intOf i).toNat)
  case atStart => exact ⟨0, 0, rfl, rfl, Nat.zero_le _, Nat.zero_le _, Int.le_refl _, Int.le_refl _, m3⟩
  case round =>
    obtain ⟨k, m, rfl, rfl, hk, hk3, hm0, hmk, hM⟩ := hrel
    have HMr := Lib.hid hM
    by_cases hlt : k < xs.length
    · by_cases h300 : k < 300
      · obtain ⟨b, o, rfl, hb, hc⟩ := HI.out k hlt
        have c0 := HB.out _ _ hM b (o + k) _ hb hc
        have TK := Lib.hid (FTK.out _ m xs[k] hM)
        have ST := Lib.hid (STAY.out m xs[k])
        have G := Lib.hid (GO.out m xs[k])
        have hkI : (k : Int) < (xs.length : Int) := by omega
        have h300I : (k : Int) < 300 := by omega
        have hkB : decide ((k : Int) < 300) = true := decide_eq_true h300I
        have E : Hid (∀ x, mayT id x [(id, m)] = if x < 1 ∨ 549755813888 < x then (false, 1) else if m + 1 < x then (false, 170) else (decide (m < x), 0)) := Lib.hid fun x => by
          unfold mayT; rw [one_sq, if_neg (by omega)]
        have E := Lib.hid (E.out xs[k])
        have HC : Hid (w.cell? ⟨b, o + k, none⟩ = some (.int .i64 xs[k])) := Lib.hid hc
        have c0 : wr.cell? ⟨b, o + k, none⟩ = some (.int .i64 xs[k]) := c0
        clear hM hc
        generalize xs[k] = x at *
        have W1 : IntKind.i64.wrap (m + 1 + 1) = m + 1 + 1 := IntWalk.i64_in _ (by omega)
        by_cases a1 : x < 1
        · have E2 : mayT id x [(id, m)] = (false, 1) := by rw [E.out, if_pos (.inl a1)]
          rw [E2] at TK ST G
          have ST2 := ST.out rfl
          rw [ST2] at TK
          clear ST G E E2 ST2
          have a2 : (x == m + 1) = false := by simp; omega
          have a3 : decide (1 ≤ x) = false := decide_eq_false (by omega)
          clear a1
          go_wp2_with fail
          refine TK.out.mono ?_
          rintro e w5 ⟨rfl, m5⟩
          have c5 := HB.out _ _ m5 b (o + k) _ hb HC.out
          clear c0 TK
          go_wp2_with fail
          go_roundw
          case rel => exact ⟨k + 1, m, by go_num, rfl, by omega, by omega, by omega, by omega, m5⟩
          case measure => simp [intOf]; omega
        have a1' : 1 ≤ x := by omega
        have a3 : decide (1 ≤ x) = true := decide_eq_true a1'
        by_cases a4 : 549755813888 < x
        · have E2 : mayT id x [(id, m)] = (false, 1) := by rw [E.out, if_pos (.inr a4)]
          rw [E2] at TK ST G
          have ST2 := ST.out rfl
          rw [ST2] at TK
          clear ST G E E2 ST2
          have a2 : (x == m + 1) = false := by simp; omega
          have a5 : decide (x ≤ m + 1) = false := decide_eq_false (by omega)
          clear a1
          go_wp2_with fail
          refine TK.out.mono ?_
          rintro e w5 ⟨rfl, m5⟩
          have c5 := HB.out _ _ m5 b (o + k) _ hb HC.out
          clear c0 TK
          go_wp2_with fail
          go_roundw
          case rel => exact ⟨k + 1, m, by go_num, rfl, by omega, by omega, by omega, by omega, m5⟩
          case measure => simp [intOf]; omega
        by_cases a6 : m + 1 < x
        · have E2 : mayT id x [(id, m)] = (false, 170) := by rw [E.out, if_neg (by omega), if_pos a6]
          rw [E2] at TK ST G
          have ST2 := ST.out rfl
          rw [ST2] at TK
          clear ST G E E2 ST2
          have a2 : (x == m + 1) = false := by simp; omega
          have a5 : decide (x ≤ m + 1) = false := decide_eq_false (by omega)
          clear a1 a4
          go_wp2_with fail
          refine TK.out.mono ?_
          rintro e w5 ⟨rfl, m5⟩
          have c5 := HB.out _ _ m5 b (o + k) _ hb HC.out
          clear c0 TK
          go_wp2_with fail
          go_roundw
          case rel => exact ⟨k + 1, m, by go_num, rfl, by omega, by omega, by omega, by omega, m5⟩
          case measure => simp [intOf]; omega
        have a6' : x ≤ m + 1 := by omega
        have a5 : decide (x ≤ m + 1) = true := decide_eq_true a6'
        by_cases a7 : m < x
        · have E2 : mayT id x [(id, m)] = (true, 0) := by rw [E.out, if_neg (by omega), if_neg a6, decide_eq_true a7]
          rw [E2] at TK ST G
          have ST2 := G.out rfl
          rw [ST2] at TK
          clear ST G E E2 ST2
          obtain rfl : x = m + 1 := by omega
          clear a1 a4 a6
          go_wp2_with fail
          refine TK.out.mono ?_
          rintro e w5 ⟨rfl, m5⟩
          have c5 := HB.out _ _ m5 b (o + k) _ hb HC.out
          clear c0 TK
          go_wp2_with fail
          go_roundw
          case rel => exact ⟨k + 1, m + 1, by go_num, by go_num, by omega, by omega, by omega, by omega, m5⟩
          case measure => simp [intOf]; omega
        · have E2 : mayT id x [(id, m)] = (false, 0) := by rw [E.out, if_neg (by omega), if_neg a6, decide_eq_false a7]
          rw [E2] at TK ST G
          have ST2 := ST.out rfl
          rw [ST2] at TK
          clear ST G E E2 ST2
          have a2 : (x == m + 1) = false := by simp; omega
          clear a1 a4 a6
          go_wp2_with fail
          refine TK.out.mono ?_
          rintro e w5 ⟨rfl, m5⟩
          have c5 := HB.out _ _ m5 b (o + k) _ hb HC.out
          clear c0 TK
          go_wp2_with fail
          go_roundw
          case rel => exact ⟨k + 1, m, by go_num, rfl, by omega, by omega, by omega, by omega, m5⟩
          case measure => simp [intOf]; omega
      · have h300B : decide ((k : Int) < 300) = false := decide_eq_false (by omega)
        have hkI : (k : Int) < (xs.length : Int) := by omega
        have F := Lib.hid (FIN.out _ _ hM)
        clear hM HMr
        go_wp2_with fail
        go_ret
        exact ⟨rfl, F.out⟩
    · have hkI : ¬ (k : Int) < (xs.length : Int) := by omega
      have hkB : decide ((k : Int) < (xs.length : Int)) = false := decide_eq_false hkI
      have F := Lib.hid (FIN.out _ _ hM)
      clear hM HMr
      go_wp2_with fail
      go_ret
      exact ⟨rfl, F.out⟩
end Go.Proofs.Ytkaocpfkigdpoaa
