/-
  raft: THE SMALL CALLS: number, isMask, isNode, somebody, limit, bit, snapMay, entryMay.
-/
import Derived.Test.YtkdaifcnlobhkaaNfr
import Derived.Lib.Hide
namespace Go.Proofs.Ytkdaifcnlobhkaa
open Go.RowKit
def idxB (n : Int) : Bool := decide (0 ≤ n) && decide (n ≤ 549755813888)
def maskB (m : Int) : Bool := decide (0 ≤ m) && decide (m < 128)
def nodeB (i : Int) : Bool := decide (0 ≤ i) && decide (i < 7)
theorem number_any (n : Int) (w : World) : Calls Try.prog 56 #[.int .i64 n] w fun e w' => e = .returned (.bool (idxB n)) ∧ w = w' := by
  unfold idxB
  by_cases h1 : 0 ≤ n
  · by_cases h2 : n ≤ 549755813888
    all_goals
      go_enter Try.func56, Try.ntmps56
      go_wp2_with fail
      go_ret
      exact ⟨ret_bool (by simp [*]), rfl⟩
  · go_enter Try.func56, Try.ntmps56
    go_wp2_with fail
    go_ret
    exact ⟨ret_bool (by rw [decide_eq_false (Int.not_le.2 h1)]; rfl), rfl⟩
theorem isMask_any (n : Int) (w : World) : Calls Try.prog 68 #[.int .i64 n] w fun e w' => e = .returned (.bool (maskB n)) ∧ w = w' := by
  unfold maskB
  by_cases h1 : 0 ≤ n
  · by_cases h2 : n < 128
    all_goals
      go_enter Try.func68, Try.ntmps68
      go_wp2_with fail
      go_ret
      exact ⟨ret_bool (by simp [*]), rfl⟩
  · go_enter Try.func68, Try.ntmps68
    go_wp2_with fail
    go_ret
    exact ⟨ret_bool (by rw [decide_eq_false (Int.not_le.2 h1)]; rfl), rfl⟩
theorem isNode_any (n : Int) (w : World) : Calls Try.prog 55 #[.int .i64 n] w fun e w' => e = .returned (.bool (nodeB n)) ∧ w = w' := by
  unfold nodeB
  by_cases h1 : 0 ≤ n
  · by_cases h2 : n < 7
    all_goals
      go_enter Try.func55, Try.ntmps55
      go_wp2_with fail
      go_ret
      exact ⟨ret_bool (by simp [*]), rfl⟩
  · go_enter Try.func55, Try.ntmps55
    go_wp2_with fail
    go_ret
    exact ⟨ret_bool (by rw [decide_eq_false (Int.not_le.2 h1)]; rfl), rfl⟩
theorem isMembers_any (m : Int) (w : World) : Calls Try.prog 76 #[.int .i64 m] w fun e w' => e = .returned (.bool (maskB m && decide (m ≠ 0))) ∧ w = w' := by
  rcases hb : maskB m with _ | _
  · have B := Lib.hid hb
    clear hb
    go_enter Try.func76, Try.ntmps76
    go_wp2_with fail
    refine (isMask_any _ _).mono ?_
    rintro e w1 ⟨rfl, rfl⟩
    rw [B.out]
    go_wp2_with fail
    go_ret
    exact ⟨rfl, rfl⟩
  · have B := Lib.hid hb
    clear hb
    go_enter Try.func76, Try.ntmps76
    go_wp2_with fail
    refine (isMask_any _ _).mono ?_
    rintro e w1 ⟨rfl, rfl⟩
    rw [B.out]
    go_wp2_with fail
    go_ret
    exact ⟨ret_bool (by by_cases h : m = 0 <;> simp [h]), rfl⟩
/-- may a snapshot be? -/
def snapB (i t m : Int) (s : ByteArray) : Bool := idxB i && (idxB t && (maskB m && decide (s.size ≤ 262144)))
def snapA (i t m : Int) (s : ByteArray) : Array Value := #[.int .i64 i, .int .i64 t, .int .i64 m, .string s]
def Trub (b : Bool) (w : World) (e : Ending) (w' : World) : Prop := e = .returned (.bool b) ∧ Below w.heap.size w w'
set_option maxHeartbeats 1000000 in
theorem snapMay_any (i t m : Int) (s : ByteArray) (w : World) : Calls Try.prog 58 #[.agg (snapA i t m s)] w (Trub (snapB i t m s) w) := by
  have B0 := Lib.hid ((Below.refl w.heap.size w).alloc (Nat.le_refl _) (.cells (snapA i t m s) 33))
  unfold snapA at *
  unfold snapB
  rcases h1 : idxB i with _ | _
  · have H1 := Lib.hid h1
    clear h1
    go_enter Try.func58, Try.ntmps58
    go_wp2_with fail
    refine (number_any _ _).mono ?_
    rintro e w1 ⟨rfl, rfl⟩
    rw [H1.out]
    go_wp2_with fail
    go_ret
    exact ⟨rfl, B0.out⟩
  · have H1 := Lib.hid h1
    clear h1
    rcases h2 : idxB t with _ | _
    · have H2 := Lib.hid h2
      clear h2
      go_enter Try.func58, Try.ntmps58
      go_wp2_with fail
      refine (number_any _ _).mono ?_
      rintro e w1 ⟨rfl, rfl⟩
      rw [H1.out]
      go_wp2_with fail
      refine (number_any _ _).mono ?_
      rintro e w1 ⟨rfl, rfl⟩
      rw [H2.out]
      go_wp2_with fail
      go_ret
      exact ⟨rfl, B0.out⟩
    · have H2 := Lib.hid h2
      clear h2
      rcases h3 : maskB m with _ | _
      · have H3 := Lib.hid h3
        clear h3
        go_enter Try.func58, Try.ntmps58
        go_wp2_with fail
        refine (number_any _ _).mono ?_
        rintro e w1 ⟨rfl, rfl⟩
        rw [H1.out]
        go_wp2_with fail
        refine (number_any _ _).mono ?_
        rintro e w1 ⟨rfl, rfl⟩
        rw [H2.out]
        go_wp2_with fail
        refine (isMask_any _ _).mono ?_
        rintro e w1 ⟨rfl, rfl⟩
        rw [H3.out]
        go_wp2_with fail
        go_ret
        exact ⟨rfl, B0.out⟩
      · have H3 := Lib.hid h3
        clear h3
        go_enter Try.func58, Try.ntmps58
        go_wp2_with fail
        refine (number_any _ _).mono ?_
        rintro e w1 ⟨rfl, rfl⟩
        rw [H1.out]
        go_wp2_with fail
        refine (number_any _ _).mono ?_
        rintro e w1 ⟨rfl, rfl⟩
        rw [H2.out]
        go_wp2_with fail
        refine (isMask_any _ _).mono ?_
        rintro e w1 ⟨rfl, rfl⟩
        rw [H3.out]
        go_wp2_with fail
        go_ret
        exact ⟨ret_bool (by simp only [Bool.true_and]; exact decide_eq_decide.2 (by omega)), B0.out⟩
theorem empty_dec (r : ByteArray) : r.toList.isEmpty = decide (r = ⟨#[]⟩) := by
  by_cases h : r = ⟨#[]⟩
  · subst h
    rw [decide_eq_true rfl, ByteArray.toList_eq]; rfl
  · rw [decide_eq_false h]
    have : r.toList ≠ [] := fun e => h (ByteArray.ext (Array.toList_inj.1 (by rw [← ByteArray.toList_eq, e])))
    cases hr : r.toList with
    | nil => exact absurd hr this
    | cons a l => rfl
theorem empty_beq (r : ByteArray) : (r.toList == []) = decide (r = ⟨#[]⟩) := by
  rw [← empty_dec]; cases r.toList <;> rfl
/-- may an entry be? -/
def entB (t k m : Int) (s : ByteArray) : Bool :=
  idxB t && (if k = 0 then decide (m = 0) && decide (s.size ≤ 32768) else if k = 1 then decide (m = 0) && decide (s = ⟨#[]⟩) else if k = 2 then (maskB m && decide (m ≠ 0)) && decide (s = ⟨#[]⟩) else false)
def entA (t k m : Int) (s : ByteArray) : Array Value := #[.int .i64 t, .int .i64 k, .int .i64 m, .string s]
set_option maxHeartbeats 2000000 in
theorem entryMay_any (t k m : Int) (s : ByteArray) (w : World) : Calls Try.prog 67 #[.agg (entA t k m s)] w (Trub (entB t k m s) w) := by
  have B0 := Lib.hid ((Below.refl w.heap.size w).alloc (Nat.le_refl _) (.cells (entA t k m s) 64))
  unfold entA at *
  unfold entB
  have E1 := empty_dec s
  have E2 := empty_beq s
  rcases h1 : idxB t with _ | _
  · have H1 := Lib.hid h1
    rw [Bool.false_and]
    clear h1 E1 E2
    go_enter Try.func67, Try.ntmps67
    go_wp2_with fail
    refine (number_any _ _).mono ?_
    rintro e w1 ⟨rfl, rfl⟩
    rw [H1.out]
    go_wp2_with fail
    go_ret
    exact ⟨rfl, B0.out⟩
  · have H1 := Lib.hid h1
    clear h1
    by_cases k0 : k = 0
    · subst k0
      rw [if_pos rfl]
      clear E1 E2
      by_cases m0 : m = 0
      · subst m0
        go_enter Try.func67, Try.ntmps67
        go_wp2_with fail
        refine (number_any _ _).mono ?_
        rintro e w1 ⟨rfl, rfl⟩
        rw [H1.out]
        go_wp2_with fail
        go_ret
        exact ⟨ret_bool (by simp only [Bool.true_and, decide_true]; exact decide_eq_decide.2 (by omega)), B0.out⟩
      · have d : (m == 0) = false := by simpa using m0
        have M0 := Lib.hid m0
        clear m0
        go_enter Try.func67, Try.ntmps67
        go_wp2_with fail
        refine (number_any _ _).mono ?_
        rintro e w1 ⟨rfl, rfl⟩
        rw [H1.out]
        go_wp2_with fail
        go_ret
        exact ⟨ret_bool (by rw [decide_eq_false M0.out]; rfl), B0.out⟩
    · rw [if_neg k0]
      have e0 : (k == 0) = false := by simpa using k0
      by_cases k1 : k = 1
      · subst k1
        rw [if_pos rfl]
        by_cases m0 : m = 0
        · subst m0
          rcases hs : decide (s = ⟨#[]⟩) with _ | _
          all_goals
            rw [hs] at E1 E2
            clear hs
            go_enter Try.func67, Try.ntmps67
            go_wp2_with fail
            refine (number_any _ _).mono ?_
            rintro e w1 ⟨rfl, rfl⟩
            rw [H1.out]
            go_wp2_with fail
            go_ret
            exact ⟨rfl, B0.out⟩
        · have d : (m == 0) = false := by simpa using m0
          have M0 := Lib.hid m0
          clear m0 E1 E2
          go_enter Try.func67, Try.ntmps67
          go_wp2_with fail
          refine (number_any _ _).mono ?_
          rintro e w1 ⟨rfl, rfl⟩
          rw [H1.out]
          go_wp2_with fail
          go_ret
          exact ⟨ret_bool (by rw [decide_eq_false M0.out]; rfl), B0.out⟩
      · rw [if_neg k1]
        have e1 : (k == 1) = false := by simpa using k1
        by_cases k2 : k = 2
        · subst k2
          rw [if_pos rfl]
          rcases hm : (maskB m && decide (m ≠ 0)) with _ | _
          · have HM := Lib.hid hm
            clear hm E1 E2
            go_enter Try.func67, Try.ntmps67
            go_wp2_with fail
            refine (number_any _ _).mono ?_
            rintro e w1 ⟨rfl, rfl⟩
            rw [H1.out]
            go_wp2_with fail
            refine (isMembers_any _ _).mono ?_
            rintro e w1 ⟨rfl, rfl⟩
            rw [HM.out]
            go_wp2_with fail
            go_ret
            exact ⟨rfl, B0.out⟩
          · have HM := Lib.hid hm
            clear hm
            rcases hs : decide (s = ⟨#[]⟩) with _ | _
            all_goals
              rw [hs] at E1 E2
              clear hs
              go_enter Try.func67, Try.ntmps67
              go_wp2_with fail
              refine (number_any _ _).mono ?_
              rintro e w1 ⟨rfl, rfl⟩
              rw [H1.out]
              go_wp2_with fail
              refine (isMembers_any _ _).mono ?_
              rintro e w1 ⟨rfl, rfl⟩
              rw [HM.out]
              go_wp2_with fail
              go_ret
              exact ⟨rfl, B0.out⟩
        · rw [if_neg k2]
          have e2 : (k == 2) = false := by simpa using k2
          clear k0 k1 k2 E1 E2
          go_enter Try.func67, Try.ntmps67
          go_wp2_with fail
          refine (number_any _ _).mono ?_
          rintro e w1 ⟨rfl, rfl⟩
          rw [H1.out]
          go_wp2_with fail
          go_ret
          exact ⟨rfl, B0.out⟩
/-- how many ticks a node waits -/
def limI (d : Int) : Int := 10 + (wrap64 (d.tmod 11 + 11)).tmod 11
theorem limI_eq (d : Int) : limI d = 10 + (d.tmod 11 + 11) % 11 ∧ 10 ≤ limI d ∧ limI d ≤ 20 := by
  have h1 := Int.tmod_lt_of_pos d (show (0 : Int) < 11 by decide)
  have h2 : -11 < d.tmod 11 := by
    have := Int.tmod_lt_of_pos (-d) (show (0 : Int) < 11 by decide)
    rw [Int.neg_tmod] at this
    omega
  have e : wrap64 (d.tmod 11 + 11) = d.tmod 11 + 11 := by unfold wrap64; omega
  unfold limI
  rw [e, Int.tmod_eq_emod_of_nonneg (by omega)]
  omega
end Go.Proofs.Ytkdaifcnlobhkaa
