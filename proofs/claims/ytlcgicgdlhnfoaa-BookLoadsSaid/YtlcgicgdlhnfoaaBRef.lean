/-
  THE DOCUMENT'S OWN TAPE: a number at the front.
-/
import Derived.Test.YtlcgicgdlhnfoaaBOne
import Derived.Lib.QuietBelow
import Derived.BigQuiet
namespace Go.Proofs.Ytlcgicgdlhnfoaa.Bt
open Go.RowKit Go.Sort
theorem mixed : Try.prog.follows .mixedOrders = true := by kernel_rfl
theorem numS_len (n : Int) : (numS n).size = if n ≤ 247 then 1 else wid n + 1 := by
  unfold numS numI
  rw [strOfNums_size]
  split
  · simp
  · rw [List.length_cons, be_len]
theorem wid_small {n k : Nat} (h1 : 1 ≤ k) (h2 : k ≤ 8) (h : n < leastN k) (h3 : 247 < n) : wid (n : Int) < k := by
  have hk : k = 1 ∨ k = 2 ∨ k = 3 ∨ k = 4 ∨ k = 5 ∨ k = 6 ∨ k = 7 ∨ k = 8 := by omega
  rcases hk with rfl | rfl | rfl | rfl | rfl | rfl | rfl | rfl
  all_goals
    simp [leastN] at h
    unfold wid
    repeat' split
    all_goals omega
theorem num_form (s : ByteArray) (k : Nat) (h0 : 0 < s.size) (hk : s[0].toNat = 247 + k) (h1 : 1 ≤ k) (hs : k + 1 ≤ s.size) :
    numS (joinN ((s.data.toList.drop 1).take k) : Nat) = s.extract 0 (k + 1) ↔ ¬ joinN ((s.data.toList.drop 1).take k) < leastN k := by
  have hb := s[0].toNat_lt
  have hd := head_drop s h0
  have hlen : (s.data.toList.drop 1).length = s.size - 1 := by rw [List.length_drop, ← Lib.size_eq]
  have hrd : rdNum s.data.toList = if joinN ((s.data.toList.drop 1).take k) < leastN k then (0, 0, 3) else (joinN ((s.data.toList.drop 1).take k), k + 1, 0) := by
    rw [hd]
    simp only [rdNum]
    rw [if_neg (by omega), show s[0].toNat - 247 = k by omega]
    simp only [List.drop_succ_cons, List.drop_zero]
    rw [if_neg (by omega)]
  constructor
  · intro he hlt
    have e1 := congrArg ByteArray.size he
    rw [numS_len] at e1
    have e3 : (s.extract 0 (k + 1)).size = k + 1 := by rw [ByteArray.size_extract]; omega
    rw [e3] at e1
    split at e1
    · omega
    · have := wid_small h1 (by omega) hlt (by omega)
      omega
  · intro hlt
    rw [if_neg hlt] at hrd
    have := num_one s.data.toList (by rw [hrd])
    rw [hrd] at this
    apply bytes_ext
    rw [Lib.extract_data, List.drop_zero, Nat.sub_zero]
    exact this
theorem join_next (s : ByteArray) (j : Nat) (h : j + 1 < s.size) : joinN ((s.data.toList.drop 1).take (j + 1)) = joinN ((s.data.toList.drop 1).take j) * 256 + s[j + 1].toNat := by
  have hl : j < (s.data.toList.drop 1).length := by rw [List.length_drop, ← Lib.size_eq]; omega
  rw [List.take_succ_eq_append_getElem hl, joinN_snoc, List.getElem_drop]
  simp only [Nat.add_comm 1 j]
  rfl
def aheadV (x : Nat × Nat × Int) : Value := .tuple #[.int .u64 (x.1 : Int), .int .i64 (x.2.1 : Int), .int .i64 x.2.2]
set_option maxRecDepth 10000 in
set_option maxHeartbeats 1000000 in
theorem ahead_any (s : ByteArray) (hs : s.size ≤ 281474976710656) (w : World) :
    Calls Try.prog 45 #[.string s] w fun e w' => e = .returned (aheadV (rdNum s.data.toList)) ∧ Below w.heap.size w w' := by
  by_cases h0 : s.size = 0
  · have e0 : s = ⟨#[]⟩ := by
      apply ByteArray.ext
      exact Array.eq_empty_of_size_eq_zero h0
    subst e0
    go_enter Try.func45, Try.ntmps45
    go_wp2_with fail
    go_ret3
    exact ⟨rfl, Below.refl _ _⟩
  have h1 : 0 < s.size := by omega
  have he := head_drop s h1
  have hne : s.toList.isEmpty = false := by
    rw [Lib.toList_data, he]; rfl
  have hb := s[0].toNat_lt
  have hbi : (s[0].toNat : Int) ≤ 255 := by omega
  have He := Lib.hid he
  clear he
  by_cases h2 : s[0].toNat ≤ 247
  · go_enter Try.func45, Try.ntmps45
    go_wp2_with fail
    go_ret3
    refine ⟨?_, Below.refl _ _⟩
    rw [He.out]; simp only [rdNum, if_pos h2]; rfl
  by_cases h3 : s.size < s[0].toNat - 247 + 1
  · go_enter Try.func45, Try.ntmps45
    go_wp2_with fail
    go_ret3
    refine ⟨?_, Below.refl _ _⟩
    rw [He.out]; simp only [rdNum, if_neg h2]; rw [if_pos (by simp; omega)]; rfl
  · obtain ⟨k, hk⟩ : ∃ k, s[0].toNat = 247 + k := ⟨s[0].toNat - 247, by omega⟩
    have hform := Lib.hid (num_form s k h1 hk (by omega) (by omega))
    go_enter Try.func45, Try.ntmps45
    go_wp2_with fail
    go_loop [6, 7] (fun n i => ∃ j : Nat, i = .int .i64 ((j : Int) + 1) ∧ j ≤ k ∧ n = .int .u64 (joinN ((s.data.toList.drop 1).take j) : Nat)) (fun _ i => k + 1 - (intOf i).toNat)
    case atStart => exact ⟨0, by simp, by omega, rfl⟩
    case round =>
      obtain ⟨j, rfl, hj, rfl⟩ := hrel
      by_cases hlt : j < k
      · have hix : j + 1 < s.size := by omega
        have hnx := Lib.hid (join_next s j hix)
        have hJ2 := joinN_u64 ((s.data.toList.drop 1).take (j + 1)) (by rw [List.length_take]; omega)
        rw [join_next s j hix] at hJ2
        have hbj := s[j + 1].toNat_lt
        generalize joinN ((s.data.toList.drop 1).take j) = J at *
        have hki : (j : Int) + 1 ≤ (s[0].toNat : Int) - 247 := by omega
        go_wp2_with fail
        exact ⟨⟨j + 1, by go_num, by omega, by rw [hnx.out]; exact congrArg (Value.int .u64) (by omega)⟩, by simp [intOf]; omega⟩
      · obtain rfl : j = k := by omega
        have hjl := joinN_u64 ((s.data.toList.drop 1).take j) (by rw [List.length_take]; omega)
        have hrd : Hid (rdNum s.data.toList = if joinN ((s.data.toList.drop 1).take j) < leastN j then (0, 0, 3) else (joinN ((s.data.toList.drop 1).take j), j + 1, 0)) := by
          unfold Hid
          rw [He.out]
          simp only [rdNum]
          rw [if_neg (by omega), show s[0].toNat - 247 = j by omega]
          simp only [List.drop_succ_cons, List.drop_zero]
          rw [if_neg (by simp; omega)]
        generalize joinN ((s.data.toList.drop 1).take j) = J at *
        have hki : ¬ (j : Int) + 1 ≤ (s[0].toNat : Int) - 247 := by omega
        go_wp2_with fail
        have cF : ∀ d os, Calls Try.prog 46 #[.int .u64 (J : Int)] (grow (redrawn w d) os) fun e w'' => e = .returned (.string (numS (J : Int))) ∧ ∃ p : Regrown, w'' = grow (redrawn w p.d) p.os := fun d os => Calls.regrown_of (rnum_any (J : Int) (by omega) (by omega) _)
        have CF := Lib.hid cF
        clear cF
        have l1 : IntKind.i64.wrap (247 + (j : Int) - 247 + 1) = 247 + (j : Int) - 247 + 1 := IntWalk.i64_in _ ⟨by omega, by omega⟩
        have l2 : (0 : Int) ≤ 247 + (j : Int) - 247 + 1 := by omega
        have l3 : (247 + (j : Int) - 247 + 1).toNat = j + 1 := by omega
        have l7 : 247 + (j : Int) - 247 + 1 ≤ (s.size : Int) := by omega
        have l8 : j + 1 ≤ s.size := by omega
        refine wp_region_quiet_below mixed (by kernel_rfl) ?_
        repeat (quiet_step (exact CF.out _ _))
        refine wpQuiet_nil ?_
        intro _ hw'
        obtain ⟨⟨dq, osq⟩, hw''⟩ := hw'
        subst hw''
        have b2 : Below w.heap.size w (grow (redrawn w dq) osq) := below_regrown w dq osq
        generalize grow (redrawn w dq) osq = w2 at *
        have hf := hform.out
        by_cases hlj : J < leastN j
        · have hq : (numS (J : Int)).toList ≠ (s.extract 0 (j + 1)).toList := fun e => by
            rw [ByteArray.toList_eq, ByteArray.toList_eq] at e
            exact hf.1 (bytes_ext e) hlj
          have hq2 : (!(numS (J : Int)).toList == (s.extract 0 (j + 1)).toList) = true := by simpa using hq
          rw [hq2]
          have hr := hrd.out
          rw [if_pos hlj] at hr
          have HR := Lib.hid hr
          clear hr hrd hq hq2 hf
          go_wp2_with fail
          go_ret3
          exact ⟨by rw [HR.out]; rfl, b2⟩
        · have hq2 : (!(numS (J : Int)).toList == (s.extract 0 (j + 1)).toList) = false := by rw [hf.2 hlj]; simp
          rw [hq2]
          have hr := hrd.out
          rw [if_neg hlj] at hr
          have HR := Lib.hid hr
          clear hr hrd hq2 hf
          go_wp2_with fail
          go_ret3
          refine ⟨?_, b2⟩
          rw [HR.out]
          exact ret_num rfl (by show (247 + (j : Int) - 247 + 1) = ((j + 1 : Nat) : Int); omega)
end Go.Proofs.Ytlcgicgdlhnfoaa.Bt
