/-
  THE LAW OF CouncilLine, as a walk.
-/
import Derived.Test.YtnlpmapnlhkpkaaCml
import Derived.Test.YtnlpmapnlhkpkaaCrr
namespace Go.Proofs.Ytnlpmapnlhkpkaa
open Go.RowKit
/-- the mask of those nodes of a mask that are of a kind -/
def mkTo (k : Nat) (p : Nat → Bool) : Nat → Nat
  | 0 => 0
  | i + 1 => if bt k i = 1 ∧ p i = true then mkTo k p i ||| 2 ^ i else mkTo k p i
theorem mkTo_lt (k : Nat) (p : Nat → Bool) (i : Nat) : mkTo k p i < 2 ^ i := by
  induction i with
  | zero => exact Nat.one_pos
  | succ i ih =>
    show (if _ then _ else _) < 2 ^ (i + 1)
    have h2 : 2 ^ (i + 1) = 2 ^ i + 2 ^ i := by rw [Nat.pow_succ]; omega
    split
    · exact Nat.or_lt_two_pow (by omega) (by have := Nat.one_le_two_pow (n := i); omega)
    · omega
theorem mkTo_le {k : Nat} {p : Nat → Bool} {i : Nat} (h : i ≤ 7) : mkTo k p i < 128 := by
  have := mkTo_lt k p i
  have h2 : 2 ^ i ≤ 2 ^ 7 := Nat.pow_le_pow_right (by omega) h
  omega
theorem mkTo_no1 {k : Nat} {p : Nat → Bool} {i : Nat} (h : decide (bt k i = 1) = false) : mkTo k p (i + 1) = mkTo k p i := by
  show (if _ then _ else _) = _; rw [if_neg (fun x => of_decide_eq_false h x.1)]
theorem mkTo_no2 {k : Nat} {p : Nat → Bool} {i : Nat} (h : p i = false) : mkTo k p (i + 1) = mkTo k p i := by
  show (if _ then _ else _) = _; rw [if_neg (fun x => by rw [h] at x; cases x.2)]
theorem mkTo_yes {k : Nat} {p : Nat → Bool} {i : Nat} (h : decide (bt k i = 1) = true) (h2 : p i = true) : mkTo k p (i + 1) = mkTo k p i ||| 2 ^ i := by
  show (if _ then _ else _) = _; rw [if_pos ⟨of_decide_eq_true h, h2⟩]
theorem bt_pow (i j : Nat) : bt (2 ^ i) j = if i = j then 1 else 0 := by
  rw [bt_test, Nat.testBit_two_pow]
  by_cases h : i = j <;> simp [h]
theorem mkTo_bt (k : Nat) (p : Nat → Bool) (i j : Nat) : bt (mkTo k p i) j = if j < i ∧ bt k j = 1 ∧ p j = true then 1 else 0 := by
  induction i with
  | zero =>
    rw [if_neg (by omega)]
    show bt 0 j = 0
    unfold bt; rw [Nat.zero_div]
  | succ i ih =>
    show bt (if _ then _ else _) j = _
    by_cases h : bt k i = 1 ∧ p i = true
    · rw [if_pos h, bt_or, ih, bt_pow]
      by_cases e : i = j
      · subst e
        rw [if_neg (by omega), if_pos rfl, if_pos ⟨by omega, h⟩]; rfl
      · rw [if_neg e]
        by_cases h2 : j < i ∧ bt k j = 1 ∧ p j = true
        · rw [if_pos h2, if_pos ⟨by omega, h2.2⟩]; rfl
        · rw [if_neg h2, if_neg (fun x => h2 ⟨by omega, x.2⟩)]; rfl
    · rw [if_neg h, ih]
      by_cases h2 : j < i ∧ bt k j = 1 ∧ p j = true
      · rw [if_pos h2, if_pos ⟨by omega, h2.2⟩]
      · rw [if_neg h2, if_neg (fun x => ?_)]
        by_cases e : j = i
        · subst e; exact h x.2
        · exact h2 ⟨by omega, x.2⟩
theorem mkTo_sz (k : Nat) (p : Nat → Bool) : sz (k &&& mkTo k p 7) = cntTo k p 7 := by
  have e : ∀ i, i < 7 → bt (k &&& mkTo k p 7) i = if bt k i = 1 ∧ p i = true then 1 else 0 := fun i hi => by
    rw [bt_and, mkTo_bt]
    by_cases h : bt k i = 1 ∧ p i = true
    · rw [if_pos ⟨hi, h⟩, if_pos h, h.1]
    · rw [if_neg (fun x => h x.2), if_neg h, Nat.mul_zero]
  rw [sz_eq, e 0 (by omega), e 1 (by omega), e 2 (by omega), e 3 (by omega), e 4 (by omega), e 5 (by omega), e 6 (by omega)]
  simp only [cntTo, Nat.zero_add]
/-- whether one of the first is the value -/
def isTo (k : Nat) (v : Nat → Int) (n : Int) : Nat → Bool
  | 0 => false
  | i + 1 => isTo k v n i || (decide (bt k i = 1) && decide (v i = n))
theorem isTo_yes {k : Nat} {v : Nat → Int} {n : Int} {i j : Nat} (h1 : bt k j = 1) (h2 : v j = n) (h : j < i) : isTo k v n i = true := by
  induction i with
  | zero => omega
  | succ i ih =>
    show (isTo k v n i || _) = true
    by_cases e : j = i
    · subst e; rw [h1, h2]; simp
    · rw [ih (by omega)]; rfl
theorem isTo_no1 {k : Nat} {v : Nat → Int} {n : Int} {i : Nat} (h : decide (bt k i = 1) = false) : isTo k v n (i + 1) = isTo k v n i := by
  show (isTo k v n i || (decide (bt k i = 1) && _)) = _; rw [h]; simp
theorem isTo_step {k : Nat} {v : Nat → Int} {n : Int} {i : Nat} (h : decide (bt k i = 1) = true) : isTo k v n (i + 1) = (isTo k v n i || decide (v i = n)) := by
  show (isTo k v n i || (decide (bt k i = 1) && _)) = _; rw [h]; simp
theorem pow_wrap : ∀ j : Nat, j < 7 → wrap64 (2 ^ j) = ((2 ^ j : Nat) : Int) := by decide +kernel
theorem or_pow {A j : Nat} (hA : A < 128) (h : j < 7) : bits .or .i64 (A : Int) (wrap64 (2 ^ j)) = ((A ||| 2 ^ j : Nat) : Int) := by
  have : 2 ^ j ≤ 2 ^ 7 := Nat.pow_le_pow_right (by omega) (by omega)
  rw [pow_wrap j h, i64_or_nat _ _ (by omega) (by omega)]
theorem ret_or {A B j : Nat} (hA : A < 128) (h : j < 7) (e : B = A ||| 2 ^ j) : Value.int .i64 (bits .or .i64 (A : Int) (wrap64 (2 ^ j))) = .int .i64 (B : Int) := by rw [or_pow hA h, e]
set_option maxHeartbeats 4000000 in
theorem line_law (m v0 v1 v2 v3 v4 v5 v6 : Int) (w : World) : Calls Try.prog 7 #[.int .i64 m, .agg #[.int .i64 v0, .int .i64 v1, .int .i64 v2, .int .i64 v3, .int .i64 v4, .int .i64 v5, .int .i64 v6]] w (Tru2 w) := by
  obtain ⟨V, hV⟩ : ∃ V : List Int, V = [v0, v1, v2, v3, v4, v5, v6] := ⟨_, rfl⟩
  have hl : V.length = 7 := by rw [hV]; rfl
  obtain ⟨N, hN⟩ : ∃ N, N = reachedP (kn m) (vf V) := ⟨_, rfl⟩
  have RA : ∀ w, Calls Try.prog 19 #[.int .i64 m, .agg #[.int .i64 v0, .int .i64 v1, .int .i64 v2, .int .i64 v3, .int .i64 v4, .int .i64 v5, .int .i64 v6]] w fun e w' => e = .returned (.int .i64 N) ∧ Below w.heap.size w w' := fun w => by
    rw [hN, hV]; exact reached_any m v0 v1 v2 v3 v4 v5 v6 w
  have K := Blk.new w 28 #[.int .i64 v0, .int .i64 v1, .int .i64 v2, .int .i64 v3, .int .i64 v4, .int .i64 v5, .int .i64 v6]
  have B0 := Lib.hid ((Below.refl w.heap.size w).alloc (Nat.le_refl _) (.cells #[.int .i64 v0, .int .i64 v1, .int .i64 v2, .int .i64 v3, .int .i64 v4, .int .i64 v5, .int .i64 v6] 28))
  obtain ⟨w2, hw2⟩ : ∃ w2, w2 = w.alloc (.cells #[.int .i64 v0, .int .i64 v1, .int .i64 v2, .int .i64 v3, .int .i64 v4, .int .i64 v5, .int .i64 v6] 28) := ⟨_, rfl⟩
  rw [← hw2] at K B0
  have W2 := Lib.hid hw2
  have KH := Lib.hid K
  have HV := Lib.hid hV
  have HL := Lib.hid hl
  have HN := Lib.hid hN
  have RAH := Lib.hid RA
  clear hw2 hV hl hN RA
  have c0 := K.cell 0
  have c1 := K.cell 1
  have c2 := K.cell 2
  have c3 := K.cell 3
  have c4 := K.cell 4
  have c5 := K.cell 5
  have c6 := K.cell 6
  clear K
  go_enter Try.func7, Try.ntmps7
  go_wp2_with fail
  rw [← W2.out]
  go_wp2_with fail
  refine (RAH.out _).mono ?_
  rintro e w3 ⟨rfl, b3⟩
  have R3 : Hid (RB w w3 V) := Lib.hid ⟨B0.out.trans (b3.mono B0.out.size), by rw [HV.out]; exact KH.out.below b3 KH.out.lt⟩
  clear c0 c1 c2 c3 c4 c5 c6 b3 KH B0 W2
  go_wp2_with fail
  refine (size_any _ _).mono ?_
  rintro e w4 ⟨rfl, rfl⟩
  by_cases h0 : sz (kn m) = 0
  · have Z := Lib.hid (show N = 0 by rw [HN.out]; exact reached_none _ h0)
    rw [Z.out]
    go_wp2_with fail
    refine awake_met _ _ fun w2 b2 => ?_
    have B2 := Lib.hid b2
    clear b2
    go_wp2_with fail
    go_ret
    exact ⟨rfl, R3.out.b.trans (B2.out.mono R3.out.b.size)⟩
  · have d0 : ((sz (kn m) : Int) == 0) = false := by simp; omega
    have P := Lib.hid (reached_spec (kn m) (vf V) (by omega))
    clear h0
    go_wp2_with fail
    go_loopw [6, 7, 8, 9] (fun r a s i wq => ∃ j : Nat, j ≤ 7 ∧ i = .int .i64 j ∧ r = .int .i64 (mkTo (kn m) (fun q => decide (N ≤ vf V q)) j) ∧ a = .int .i64 (mkTo (kn m) (fun q => decide (N < vf V q)) j) ∧ s = .bool (isTo (kn m) (vf V) N j) ∧ RB w wq V) (fun _ _ _ i _ => 7 - (intOf i).toNat)
    case atStart => exact ⟨0, by omega, rfl, rfl, rfl, rfl, R3.out⟩
    case round =>
      obtain ⟨j, hj, rfl, rfl, rfl, rfl, hr⟩ := hrel
      have RR := Lib.hid hr
      clear hr R3
      by_cases hlt : j < 7
      · have H := hasB_bt m j hlt
        rcases hd : decide (bt (kn m) j = 1) with _ | _
        · rw [hd] at H
          have S1 := Lib.hid (mkTo_no1 (p := fun q => decide (N ≤ vf V q)) hd)
          have S2 := Lib.hid (mkTo_no1 (p := fun q => decide (N < vf V q)) hd)
          have S3 := Lib.hid (isTo_no1 (v := vf V) (n := N) hd)
          clear hd
          go_wp2_with ((with_reducible refine (has_any _ _ _).mono ?_); rintro e w' ⟨rfl, rfl⟩)
          go_roundw
          case rel => exact ⟨j + 1, by omega, by go_num, by rw [S1.out], by rw [S2.out], by rw [S3.out], RR.out⟩
          case measure => simp [intOf]; omega
        · rw [hd] at H
          have D := Lib.hid hd
          clear hd
          have hjl : j < V.length := by rw [HL.out]; exact hlt
          have VJ := Lib.hid (show vf V j = V[j] from getD_get V hjl)
          have C2 := RR.out.cell hjl
          by_cases hlo : V[j] < N
          · have n1 : ¬ N ≤ V[j] := by omega
            have n2 : ¬ N < V[j] := by omega
            have n3 : (V[j] == N) = false := by simp; omega
            have S1 := Lib.hid (mkTo_no2 (k := kn m) (p := (fun q => decide (N ≤ vf V q))) (i := j) (by show decide (N ≤ vf V j) = false; rw [VJ.out]; exact decide_eq_false (by omega)))
            have S2 := Lib.hid (mkTo_no2 (k := kn m) (p := (fun q => decide (N < vf V q))) (i := j) (by show decide (N < vf V j) = false; rw [VJ.out]; exact decide_eq_false (by omega)))
            have S3 : Hid (isTo (kn m) (vf V) N (j + 1) = (isTo (kn m) (vf V) N j || false)) := Lib.hid (by rw [isTo_step D.out, VJ.out, decide_eq_false (by omega)])
            rcases hi : isTo (kn m) (vf V) N j with _ | _
            · have I := Lib.hid hi
              clear hi
              go_wp2_with ((with_reducible refine (has_any _ _ _).mono ?_); rintro e w' ⟨rfl, rfl⟩)
              go_roundw
              case rel => exact ⟨j + 1, by omega, by go_num, by rw [S1.out], by rw [S2.out], by rw [S3.out, I.out]; rfl, RR.out⟩
              case measure => simp [intOf]; omega
            · have I := Lib.hid hi
              clear hi
              go_wp2_with ((with_reducible refine (has_any _ _ _).mono ?_); rintro e w' ⟨rfl, rfl⟩)
              go_roundw
              case rel => exact ⟨j + 1, by omega, by go_num, by rw [S1.out], by rw [S2.out], by rw [S3.out, I.out]; rfl, RR.out⟩
              case measure => simp [intOf]; omega
          · by_cases heq : V[j] = N
            · have n1 : N ≤ V[j] := by omega
              have n2 : ¬ N < V[j] := by omega
              have n3 : (V[j] == N) = true := by simp; omega
              have S1 := Lib.hid (mkTo_yes (p := (fun q => decide (N ≤ vf V q))) D.out (by show decide (N ≤ vf V j) = true; rw [VJ.out]; exact decide_eq_true (by omega)))
              have S2 := Lib.hid (mkTo_no2 (k := kn m) (p := (fun q => decide (N < vf V q))) (i := j) (by show decide (N < vf V j) = false; rw [VJ.out]; exact decide_eq_false (by omega)))
              have S3 : Hid (isTo (kn m) (vf V) N (j + 1) = (isTo (kn m) (vf V) N j || true)) := Lib.hid (by rw [isTo_step D.out, VJ.out, decide_eq_true (by omega)])
              rcases hi : isTo (kn m) (vf V) N j with _ | _
              · have I := Lib.hid hi
                clear hi
                go_wp2_with ((with_reducible refine (has_any _ _ _).mono ?_); rintro e w' ⟨rfl, rfl⟩)
                go_roundw
                case rel => exact ⟨j + 1, by omega, by go_num, ret_or (mkTo_le hj) hlt S1.out, by rw [S2.out], by rw [S3.out, I.out]; rfl, RR.out⟩
                case measure => simp [intOf]; omega
              · have I := Lib.hid hi
                clear hi
                go_wp2_with ((with_reducible refine (has_any _ _ _).mono ?_); rintro e w' ⟨rfl, rfl⟩)
                go_roundw
                case rel => exact ⟨j + 1, by omega, by go_num, ret_or (mkTo_le hj) hlt S1.out, by rw [S2.out], by rw [S3.out, I.out]; rfl, RR.out⟩
                case measure => simp [intOf]; omega
            · have n2 : N < V[j] := by omega
              have n1 : N ≤ V[j] := by omega
              have n3 : (V[j] == N) = false := by simp; omega
              have S1 := Lib.hid (mkTo_yes (p := (fun q => decide (N ≤ vf V q))) D.out (by show decide (N ≤ vf V j) = true; rw [VJ.out]; exact decide_eq_true (by omega)))
              have S2 := Lib.hid (mkTo_yes (p := (fun q => decide (N < vf V q))) D.out (by show decide (N < vf V j) = true; rw [VJ.out]; exact decide_eq_true (by omega)))
              have S3 : Hid (isTo (kn m) (vf V) N (j + 1) = (isTo (kn m) (vf V) N j || false)) := Lib.hid (by rw [isTo_step D.out, VJ.out, decide_eq_false (by omega)])
              rcases hi : isTo (kn m) (vf V) N j with _ | _
              · have I := Lib.hid hi
                clear hi
                go_wp2_with ((with_reducible refine (has_any _ _ _).mono ?_); rintro e w' ⟨rfl, rfl⟩)
                go_roundw
                case rel => exact ⟨j + 1, by omega, by go_num, ret_or (mkTo_le hj) hlt S1.out, ret_or (mkTo_le hj) hlt S2.out, by rw [S3.out, I.out]; rfl, RR.out⟩
                case measure => simp [intOf]; omega
              · have I := Lib.hid hi
                clear hi
                go_wp2_with ((with_reducible refine (has_any _ _ _).mono ?_); rintro e w' ⟨rfl, rfl⟩)
                go_roundw
                case rel => exact ⟨j + 1, by omega, by go_num, ret_or (mkTo_le hj) hlt S1.out, ret_or (mkTo_le hj) hlt S2.out, by rw [S3.out, I.out]; rfl, RR.out⟩
                case measure => simp [intOf]; omega
      · obtain rfl : j = 7 := by omega
        have E1 : Hid (enoughB m (mkTo (kn m) (fun q => decide (N ≤ vf V q)) 7 : Nat) = true) := Lib.hid (by
          unfold enoughB
          rw [kn_nat (mkTo_le (Nat.le_refl 7)), mkTo_sz, HN.out]
          exact decide_eq_true P.out.2.1)
        have E2 : Hid (enoughB m (mkTo (kn m) (fun q => decide (N < vf V q)) 7 : Nat) = false) := Lib.hid (by
          unfold enoughB
          rw [kn_nat (mkTo_le (Nat.le_refl 7)), mkTo_sz, HN.out]
          exact decide_eq_false (by have := P.out.2.2; omega))
        have E3 : isTo (kn m) (vf V) N 7 = true := by
          obtain ⟨i, hi, e1, e2⟩ := P.out.1
          exact isTo_yes e1 (by rw [HN.out]; exact e2) hi
        have BB := Lib.hid RR.out.b
        go_wp2_with fail
        refine awake_met _ _ fun w5 b5 => ?_
        have B5 := Lib.hid (BB.out.trans (b5.mono BB.out.size))
        clear b5
        go_wp2_with fail
        refine (enough_any _ _ _).mono ?_
        rintro e w6 ⟨rfl, rfl⟩
        rw [E1.out]
        go_wp2_with fail
        refine (enough_any _ _ _).mono ?_
        rintro e w6 ⟨rfl, rfl⟩
        rw [E2.out]
        go_wp2_with fail
        go_ret
        exact ⟨rfl, B5.out⟩
end Go.Proofs.Ytnlpmapnlhkpkaa
