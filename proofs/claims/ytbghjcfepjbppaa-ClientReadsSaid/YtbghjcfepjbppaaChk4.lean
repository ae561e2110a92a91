/-
  THE DOCUMENT's OWN Word.
-/
import Derived.Test.YtbghjcfepjbppaaChk1
namespace Go.Proofs.Ytbghjcfepjbppaa
open Go.RowKit
set_option maxHeartbeats 2000000 in
theorem rword_any (s : ByteArray) (hs : s.size ≤ 9223372036854775807) (w : World) : Calls Try.prog 18 #[.string s] w fun e w' => e = .returned (.bool (wordB s)) ∧ w = w' := by
  obtain ⟨A, hA⟩ : ∃ A, wordB s = A := ⟨_, rfl⟩
  have HA := Lib.hid hA
  rw [hA]
  clear hA
  go_enter Try.func18, Try.ntmps18
  go_wp2_with fail
  go_loop [3] (fun i => ∃ k : Nat, i = .int .i64 k ∧ k ≤ s.size ∧ Hid ((((bl s).take k).all fun b => chB b.toNat) = true) ∧ Hid (0 < k → lettB ((bl s).headD 0).toNat = true)) (fun i => s.size - (intOf i).toNat)
  case atStart => exact ⟨0, rfl, Nat.zero_le _, Lib.hid rfl, Lib.hid (fun h => absurd h (by decide))⟩
  case round =>
    obtain ⟨k, rfl, hk, hall, hhd⟩ := hrel
    by_cases hks : k < s.size
    · have HD := Lib.hid (head_at s (by omega))
      have NF := Lib.hid (fun (h : chB s[k].toNat = false) => show false = A by
        rw [← HA.out]
        unfold wordB
        have : ((bl s).all fun b => chB b.toNat) = false := by
          rw [List.all_eq_false]
          refine ⟨s[k], ?_, by rw [h]; decide⟩
          unfold bl
          exact List.mem_iff_getElem.2 ⟨k, by rw [Array.length_toList]; exact hks, rfl⟩
        rw [this, Bool.and_false])
      have NX := Lib.hid (fun (h : chB s[k].toNat = true) => show (((bl s).take (k + 1)).all fun b => chB b.toNat) = true by
        rw [take_more s k hks, List.all_append, hall.out]; simp [h])
      have N0 := Lib.hid (fun (h0 : k = 0) (h : lettB s[k].toNat = false) => show false = A by
        rw [← HA.out]
        unfold wordB
        have : lettB ((bl s).headD 0).toNat = false := by rw [HD.out]; subst h0; exact h
        rw [this, Bool.and_false, Bool.false_and])
      have NH := Lib.hid (fun (h : k = 0 → lettB s[k].toNat = true) => show (0 < k + 1 → lettB ((bl s).headD 0).toNat = true) from fun _ => by
        by_cases hk0 : k = 0
        · rw [HD.out]; subst hk0; exact h rfl
        · exact hhd.out (by omega))
      by_cases hlt : 97 ≤ (s[k].toNat : Int) ∧ (s[k].toNat : Int) ≤ 122
      · have h1 := hlt.1
        have h2 := hlt.2
        have LL : lettB s[k].toNat = true := by unfold lettB; simp; omega
        have N1 := Lib.hid (NX.out (by unfold chB; rw [LL]; rfl))
        have N2 := Lib.hid (NH.out (fun _ => LL))
        clear NF NX N0 NH hlt LL
        go_wp2_with fail
        go_round
        case rel => exact ⟨k + 1, by go_num, by omega, N1, N2⟩
        case measure => simp [intOf]; omega
      · have LL : lettB s[k].toNat = false := by unfold lettB; simp; omega
        by_cases hk0 : k = 0
        · have R := Lib.hid (N0.out hk0 LL)
          subst hk0
          clear NF NX N0 NH LL
          rw [show ((0 : Nat) : Int) = 0 from rfl]
          by_cases h1 : 97 ≤ (s[0].toNat : Int)
          · have h2 : 122 < (s[0].toNat : Int) := by omega
            have g2 : decide ((s[0].toNat : Int) ≤ 122) = false := by simp; omega
            clear hlt
            go_wp2_with fail
            go_ret
            exact ⟨ret_bool R.out, rfl⟩
          · have h2 : (s[0].toNat : Int) < 97 := by omega
            clear hlt h1
            go_wp2_with fail
            go_ret
            exact ⟨ret_bool R.out, rfl⟩
        · have N2 := Lib.hid (NH.out (fun h => absurd h hk0))
          have z1 : ((k : Int) == 0) = false := by simp; omega
          by_cases hd : 48 ≤ (s[k].toNat : Int) ∧ (s[k].toNat : Int) ≤ 57
          · have h1 := hd.1
            have h2 := hd.2
            have h3 : (s[k].toNat : Int) < 97 := by omega
            have N1 := Lib.hid (NX.out (by unfold chB digB; rw [LL]; simp; omega))
            clear NF NX N0 NH LL hd hlt hk0
            go_wp2_with fail
            go_round
            case rel => exact ⟨k + 1, by go_num, by omega, N1, N2⟩
            case measure => simp [intOf]; omega
          · by_cases h95 : (s[k].toNat : Int) = 95
            · have e95 : ((s[k].toNat : Int) == 95) = true := by simpa using h95
              have h3 : (s[k].toNat : Int) < 97 := by omega
              have h4 : 57 < (s[k].toNat : Int) := by omega
              have g4 : decide ((s[k].toNat : Int) ≤ 57) = false := by simp; omega
              have h5 : 48 ≤ (s[k].toNat : Int) := by omega
              have N1 := Lib.hid (NX.out (by unfold chB digB; rw [LL]; simp; omega))
              clear NF NX N0 NH LL hd hlt hk0 h95
              go_wp2_with fail
              go_round
              case rel => exact ⟨k + 1, by go_num, by omega, N1, N2⟩
              case measure => simp [intOf]; omega
            · have e95 : ((s[k].toNat : Int) == 95) = false := by simpa using h95
              have R := Lib.hid (NF.out (by unfold chB digB; rw [LL]; simp; omega))
              clear NF NX N0 NH LL hk0 h95
              by_cases h1 : 97 ≤ (s[k].toNat : Int)
              · have h2 : 122 < (s[k].toNat : Int) := by omega
                have g2 : decide ((s[k].toNat : Int) ≤ 122) = false := by simp; omega
                have h3 : 48 ≤ (s[k].toNat : Int) := by omega
                have h4 : 57 < (s[k].toNat : Int) := by omega
                have g4 : decide ((s[k].toNat : Int) ≤ 57) = false := by simp; omega
                clear hd hlt
                go_wp2_with fail
                go_ret
                exact ⟨ret_bool R.out, rfl⟩
              · have h2 : (s[k].toNat : Int) < 97 := by omega
                by_cases h3 : 48 ≤ (s[k].toNat : Int)
                · have h4 : 57 < (s[k].toNat : Int) := by omega
                  have g4 : decide ((s[k].toNat : Int) ≤ 57) = false := by simp; omega
                  clear hd hlt h1
                  go_wp2_with fail
                  go_ret
                  exact ⟨ret_bool R.out, rfl⟩
                · have h4 : (s[k].toNat : Int) < 48 := by omega
                  clear hd hlt h1 h3
                  go_wp2_with fail
                  go_ret
                  exact ⟨ret_bool R.out, rfl⟩
    · obtain rfl : k = s.size := by omega
      have R := Lib.hid (show (decide (1 ≤ s.size) && decide (s.size ≤ 16)) = A by
        rw [← HA.out]
        unfold wordB
        have h1 : ((bl s).all fun b => chB b.toNat) = true := by rw [← hall.out, List.take_of_length_le (by rw [bl_len]; exact Nat.le_refl _)]
        rw [h1, Bool.and_true]
        by_cases h0 : 0 < s.size
        · rw [hhd.out h0, Bool.and_true]
        · rw [decide_eq_false (show ¬ 1 ≤ s.size by omega)]; rfl)
      by_cases h0 : 1 ≤ s.size
      · have h0' : (1 : Int) ≤ (s.size : Int) := by omega
        by_cases h16 : s.size ≤ 16
        · have h16' : (s.size : Int) ≤ 16 := by omega
          rw [decide_eq_true h0, decide_eq_true h16] at R
          go_wp2_with fail
          go_ret
          exact ⟨ret_bool (by rw [← R.out]; simp; try omega), rfl⟩
        · have h16' : (16 : Int) < (s.size : Int) := by omega
          rw [decide_eq_true h0, decide_eq_false h16] at R
          go_wp2_with fail
          go_ret
          exact ⟨ret_bool (by rw [← R.out]; simp; try omega), rfl⟩
      · have h0' : (s.size : Int) < 1 := by omega
        rw [decide_eq_false h0] at R
        go_wp2_with fail
        go_ret
        exact ⟨ret_bool (by rw [← R.out]; simp; try omega), rfl⟩
end Go.Proofs.Ytbghjcfepjbppaa
