/-
  VALUES THAT MAY BE: event.value, the document's may and in.
-/
import Derived.Test.YtbghjcfepjbppaaHlaw
namespace Go.Proofs.Ytbghjcfepjbppaa
open Go.RowKit
theorem in_any (n : Int) (w : World) : Calls Try.prog 68 #[.int .i64 n] w fun e w' => e = .returned (.bool (numB n)) ∧ w = w' := by
  unfold numB
  by_cases h1 : 0 ≤ n
  · by_cases h2 : n ≤ 549755813888
    · rw [decide_eq_true h1, decide_eq_true h2]
      go_enter Try.func68, Try.ntmps68
      go_wp2_with fail
      go_ret
      exact ⟨ret_bool (by simp), rfl⟩
    · rw [decide_eq_true h1, decide_eq_false h2]
      have h3 : 549755813888 < n := by omega
      go_enter Try.func68, Try.ntmps68
      go_wp2_with fail
      go_ret
      exact ⟨ret_bool (by simp), rfl⟩
  · rw [decide_eq_false h1]
    have h3 : n < 0 := by omega
    go_enter Try.func68, Try.ntmps68
    go_wp2_with fail
    go_ret
    exact ⟨rfl, rfl⟩
def mayB (v : Val) : Bool :=
  if v.k = 1 then decide (v.f = 0) && decide (v.s = ⟨#[]⟩)
  else if v.k = 2 then decide (v.n = 0) && decide (v.s = ⟨#[]⟩)
  else if v.k = 3 then decide (v.s.size ≤ 64) && (decide (v.n = 0) && decide (v.f = 0))
  else false
theorem str_zero {s : ByteArray} (h : s ≠ ⟨#[]⟩) : (s.toList == []) = false := by
  simp only [ByteArray.toList_eq, beq_eq_false_iff_ne, ne_eq]
  intro e
  apply h
  cases s
  simp only [ByteArray.mk.injEq]
  exact Array.toList_inj.1 (by simpa using e)
set_option maxHeartbeats 1000000 in
theorem value_any (v : Val) (hs : v.s.size ≤ 9223372036854775807) (w : World) : Calls Try.prog 89 #[v.val] w fun e w' => e = .returned (.bool (mayB v)) ∧ Below w.heap.size w w' := by
  have hb := run_bits v.f
  obtain ⟨k, n, f, s⟩ := v
  unfold Val.val mayB
  simp only at *
  have FIN := Lib.hid (fun ob => (Below.refl _ w).alloc (Nat.le_refl _) ob)
  by_cases h1 : k = 1
  · subst h1
    rw [if_pos rfl]
    by_cases hf : f = 0
    · subst hf
      by_cases hz : s = ⟨#[]⟩
      · subst hz
        go_enter Try.func89, Try.ntmps89
        go_wp2_with fail
        go_ret
        exact ⟨rfl, FIN.out _⟩
      · rw [decide_eq_false hz]
        have hz' := str_zero hz
        clear hz
        go_enter Try.func89, Try.ntmps89
        go_wp2_with fail
        go_ret
        exact ⟨rfl, FIN.out _⟩
    · rw [decide_eq_false hf]
      have hf' : ((f : Int) == 0) = false := by simpa using hf
      clear hf
      go_enter Try.func89, Try.ntmps89
      go_wp2_with fail
      go_ret
      exact ⟨rfl, FIN.out _⟩
  rw [if_neg h1]
  by_cases h2 : k = 2
  · subst h2
    rw [if_pos rfl]
    clear h1 hb
    have hb0 := run_bits 0
    by_cases hn : n = 0
    · subst hn
      by_cases hz : s = ⟨#[]⟩
      · subst hz
        go_enter Try.func89, Try.ntmps89
        go_wp2_with fail
        go_ret
        exact ⟨rfl, FIN.out _⟩
      · rw [decide_eq_false hz]
        have hz' := str_zero hz
        clear hz
        go_enter Try.func89, Try.ntmps89
        go_wp2_with fail
        go_ret
        exact ⟨rfl, FIN.out _⟩
    · rw [decide_eq_false hn]
      have hn' : (n == 0) = false := by simpa using hn
      clear hn
      go_enter Try.func89, Try.ntmps89
      go_wp2_with fail
      go_ret
      exact ⟨rfl, FIN.out _⟩
  rw [if_neg h2]
  by_cases h3 : k = 3
  · subst h3
    rw [if_pos rfl]
    clear h1 h2
    by_cases hl : s.size ≤ 64
    · have hl' : ¬ (64 : Int) < (s.size : Int) := by omega
      rw [decide_eq_true hl]
      by_cases hn : n = 0
      · subst hn
        by_cases hf : f = 0
        · subst hf
          go_enter Try.func89, Try.ntmps89
          go_wp2_with fail
          go_ret
          exact ⟨rfl, FIN.out _⟩
        · rw [decide_eq_false hf]
          have hf' : ((f : Int) == 0) = false := by simpa using hf
          clear hf
          go_enter Try.func89, Try.ntmps89
          go_wp2_with fail
          go_ret
          exact ⟨rfl, FIN.out _⟩
      · rw [decide_eq_false hn]
        have hn' : (n == 0) = false := by simpa using hn
        clear hn
        go_enter Try.func89, Try.ntmps89
        go_wp2_with fail
        go_ret
        exact ⟨rfl, FIN.out _⟩
    · rw [decide_eq_false hl]
      have hl' : (64 : Int) < (s.size : Int) := by omega
      clear hl
      go_enter Try.func89, Try.ntmps89
      go_wp2_with fail
      go_ret
      exact ⟨rfl, FIN.out _⟩
  rw [if_neg h3]
  have d1 : (k == 1) = false := by simpa using h1
  have d2 : (k == 2) = false := by simpa using h2
  have d3 : (k == 3) = false := by simpa using h3
  clear h1 h2 h3
  go_enter Try.func89, Try.ntmps89
  go_wp2_with fail
  go_ret
  exact ⟨rfl, FIN.out _⟩
set_option maxHeartbeats 1000000 in
theorem may_any (v : Val) (hs : v.s.size ≤ 9223372036854775807) (w : World) : Calls Try.prog 69 #[v.val] w fun e w' => e = .returned (.bool (mayB v)) ∧ Below w.heap.size w w' := by
  have hb := run_bits v.f
  obtain ⟨k, n, f, s⟩ := v
  unfold Val.val mayB
  simp only at *
  have FIN := Lib.hid ((Below.refl _ w).alloc (Nat.le_refl _) (.cells #[.int .i64 k, .int .i64 n, .float .f64 f, .string s] 106))
  by_cases h0 : k < 1
  · have R := Lib.hid (show false = (if k = 1 then decide (f = 0) && decide (s = ⟨#[]⟩) else if k = 2 then decide (n = 0) && decide (s = ⟨#[]⟩) else if k = 3 then decide (s.size ≤ 64) && (decide (n = 0) && decide (f = 0)) else false) by
      rw [if_neg (by omega), if_neg (by omega), if_neg (by omega)])
    rw [← R.out]
    go_enter Try.func69, Try.ntmps69
    go_wp2_with fail
    go_ret
    exact ⟨rfl, FIN.out⟩
  by_cases h4 : 3 < k
  · have R := Lib.hid (show false = (if k = 1 then decide (f = 0) && decide (s = ⟨#[]⟩) else if k = 2 then decide (n = 0) && decide (s = ⟨#[]⟩) else if k = 3 then decide (s.size ≤ 64) && (decide (n = 0) && decide (f = 0)) else false) by
      rw [if_neg (by omega), if_neg (by omega), if_neg (by omega)])
    rw [← R.out]
    go_enter Try.func69, Try.ntmps69
    go_wp2_with fail
    go_ret
    exact ⟨rfl, FIN.out⟩
  by_cases hl : s.size ≤ 64
  · have hl' : ¬ (64 : Int) < (s.size : Int) := by omega
    obtain ⟨en, hen⟩ : ∃ b : Bool, decide (n = 0) = b := ⟨_, rfl⟩
    obtain ⟨ef, hef⟩ : ∃ b : Bool, decide (f = 0) = b := ⟨_, rfl⟩
    obtain ⟨es, hes⟩ : ∃ b : Bool, decide (s = ⟨#[]⟩) = b := ⟨_, rfl⟩
    have xn : (n == 0) = en := by rw [← hen]; apply Bool.eq_iff_iff.2; simp
    have xf : ((f : Int) == 0) = ef := by rw [← hef]; apply Bool.eq_iff_iff.2; simp
    have xs : (s.toList == []) = es := by
      rw [← hes]
      by_cases hz : s = ⟨#[]⟩
      · subst hz; simp [ByteArray.toList_eq]
      · rw [decide_eq_false hz]; exact str_zero hz
    rw [hen, hef, hes, decide_eq_true hl]
    clear hen hef hes hl
    rcases (show k = 1 ∨ k = 2 ∨ k = 3 by omega) with rfl | rfl | rfl
    · rw [if_pos rfl]
      clear h0 h4
      cases en <;> cases ef <;> cases es <;> (go_enter Try.func69, Try.ntmps69; go_wp2_with fail; go_ret; exact ⟨rfl, FIN.out⟩)
    · rw [if_neg (by decide), if_pos rfl]
      clear h0 h4
      cases en <;> cases ef <;> cases es <;> (go_enter Try.func69, Try.ntmps69; go_wp2_with fail; go_ret; exact ⟨rfl, FIN.out⟩)
    · rw [if_neg (by decide), if_neg (by decide), if_pos rfl]
      clear h0 h4
      cases en <;> cases ef <;> cases es <;> (go_enter Try.func69, Try.ntmps69; go_wp2_with fail; go_ret; exact ⟨rfl, FIN.out⟩)
  · have hl' : (64 : Int) < (s.size : Int) := by omega
    have hne : s ≠ ⟨#[]⟩ := fun e => by rw [e] at hl; exact hl (by decide)
    have R := Lib.hid (show false = (if k = 1 then decide (f = 0) && decide (s = ⟨#[]⟩) else if k = 2 then decide (n = 0) && decide (s = ⟨#[]⟩) else if k = 3 then decide (s.size ≤ 64) && (decide (n = 0) && decide (f = 0)) else false) by
      rw [decide_eq_false hne, decide_eq_false hl]; simp)
    rw [← R.out]
    clear hl hne
    go_enter Try.func69, Try.ntmps69
    go_wp2_with fail
    go_ret
    exact ⟨rfl, FIN.out⟩
end Go.Proofs.Ytbghjcfepjbppaa
