/-
  SMALL PARTS OF A DISK: a letter, a name, whether it is ready.
-/
import Derived.Test.YtejmoaloomnmkaaDo
namespace Go.Proofs.Ytejmoaloomnmkaa
open Go.RowKit
/-- may a byte stand in a name? -/
def letB (b : Int) : Bool := (decide (97 ≤ b) && decide (b ≤ 122)) || (decide (48 ≤ b) && decide (b ≤ 57)) || b == 46 || b == 45
theorem letter_any (b : Int) (w : World) : Calls Try.prog 44 #[.int .u8 b] w fun e w' => e = .returned (.bool (letB b)) ∧ w = w' := by
  by_cases h1 : 97 ≤ b
  · by_cases h2 : b ≤ 122
    · have e : letB b = true := by simp [letB, h1, h2]
      rw [e]
      go_enter Try.func44, Try.ntmps44
      go_wp2_with fail
      go_ret
      exact ⟨rfl, rfl⟩
    · have h3 : ¬ b ≤ 57 := by omega
      have h4 : (b == 46) = false := by simp; omega
      have h5 : (b == 45) = false := by simp; omega
      have h6 : 48 ≤ b := by omega
      have e : letB b = false := by simp [letB, h2, h3, h4, h5]
      rw [e]
      go_enter Try.func44, Try.ntmps44
      go_wp2_with fail
      go_ret
      exact ⟨rfl, rfl⟩
  · by_cases h6 : 48 ≤ b
    · by_cases h3 : b ≤ 57
      · have e : letB b = true := by simp [letB, h6, h3]
        rw [e]
        go_enter Try.func44, Try.ntmps44
        go_wp2_with fail
        go_ret
        exact ⟨rfl, rfl⟩
      · have h4 : (b == 46) = false := by simp; omega
        have h5 : (b == 45) = false := by simp; omega
        have e : letB b = false := by simp [letB, h1, h3, h4, h5]
        rw [e]
        go_enter Try.func44, Try.ntmps44
        go_wp2_with fail
        go_ret
        exact ⟨rfl, rfl⟩
    · by_cases h4 : b = 46
      · subst h4
        have e : letB 46 = true := by decide
        rw [e]
        go_enter Try.func44, Try.ntmps44
        go_wp2_with fail
        go_ret
        exact ⟨rfl, rfl⟩
      · by_cases h5 : b = 45
        · subst h5
          have e : letB 45 = true := by decide
          rw [e]
          go_enter Try.func44, Try.ntmps44
          go_wp2_with fail
          go_ret
          exact ⟨rfl, rfl⟩
        · have h4' : (b == 46) = false := by simpa using h4
          have h5' : (b == 45) = false := by simpa using h5
          have e : letB b = false := by simp [letB, h1, h6, h4', h5']
          rw [e]
          clear h4 h5
          go_enter Try.func44, Try.ntmps44
          go_wp2_with fail
          go_ret
          exact ⟨rfl, rfl⟩
/-- a name -/
def nameB (s : Nm) : Bool := decide (1 ≤ s.size) && decide (s.size ≤ 64) && (bl s).all (fun b => letB (b.toNat : Int))
theorem nameB_size {s : Nm} (h : nameB s = true) : 1 ≤ s.size ∧ s.size ≤ 64 := by
  unfold nameB at h
  simp at h
  omega
theorem all_take {l : List UInt8} {p : UInt8 → Bool} {k : Nat} (h : (l.take k).all p = true) (hk : k < l.length) (hp : p l[k] = true) : (l.take (k + 1)).all p = true := by
  rw [List.take_add_one, List.getElem?_eq_getElem hk, List.all_append, h]
  simp [hp]
set_option maxHeartbeats 1000000 in
theorem name_any (s : Nm) (w : World) (hs : s.size ≤ 9223372036854775807) : Calls Try.prog 27 #[.string s] w fun e w' => e = .returned (.bool (nameB s)) ∧ w = w' := by
  by_cases h1 : s.size < 1
  · have e : nameB s = false := by unfold nameB; simp; omega
    rw [e]
    have h1' : (s.size : Int) < 1 := by omega
    go_enter Try.func27, Try.ntmps27
    go_wp2_with fail
    go_ret
    exact ⟨rfl, rfl⟩
  · by_cases h2 : 64 < s.size
    · have e : nameB s = false := by unfold nameB; simp; omega
      rw [e]
      have h1' : ¬ (s.size : Int) < 1 := by omega
      have h2' : (64 : Int) < (s.size : Int) := by omega
      go_enter Try.func27, Try.ntmps27
      go_wp2_with fail
      go_ret
      exact ⟨rfl, rfl⟩
    · have h1' : ¬ (s.size : Int) < 1 := by omega
      have h2' : ¬ (64 : Int) < (s.size : Int) := by omega
      have e0 : nameB s = (bl s).all (fun b => letB (b.toNat : Int)) := by
        unfold nameB
        have a1 : decide (1 ≤ s.size) = true := by simp; omega
        have a2 : decide (s.size ≤ 64) = true := by simp; omega
        rw [a1, a2]; rfl
      rw [e0]
      go_enter Try.func27, Try.ntmps27
      go_wp2_with fail
      go_loop [14] (fun i => ∃ k : Nat, k ≤ s.size ∧ i = .int .i64 k ∧ ((bl s).take k).all (fun b => letB (b.toNat : Int)) = true) (fun i => s.size - (intOf i).toNat)
      case atStart => exact ⟨0, Nat.zero_le _, rfl, rfl⟩
      case round =>
        obtain ⟨k, hk, rfl, hr⟩ := hrel
        have HR := Lib.hid hr
        clear hr
        by_cases hlt : k < s.size
        · have hb : k < (bl s).length := by rw [bl_len]; exact hlt
          have hg : (bl s)[k] = s[k] := rfl
          have HA := Lib.hid (fun hp => all_take (p := fun b => letB (b.toNat : Int)) HR.out hb hp)
          by_cases hl : letB (s[k].toNat : Int) = true
          · have L := fun w => letter_any (s[k].toNat : Int) w
            rw [hl] at L
            have HN := Lib.hid (HA.out (by rw [hg]; exact hl))
            clear hl hg
            go_wp2_with (go_at_call 44; refine (L _).mono ?_; rintro e w' ⟨rfl, rfl⟩)
            go_round
            case rel => exact ⟨k + 1, by omega, by go_num, HN.out⟩
            case measure => simp [intOf]; omega
          · have hl' : letB (s[k].toNat : Int) = false := by simpa using hl
            have L := fun w => letter_any (s[k].toNat : Int) w
            rw [hl'] at L
            have HN : Hid ((bl s).all (fun b => letB (b.toNat : Int)) = false) := Lib.hid (by
              rw [List.all_eq_false]
              exact ⟨(bl s)[k], List.getElem_mem hb, by rw [hg, hl']; simp⟩)
            clear hl hg hl'
            go_wp2_with (go_at_call 44; refine (L _).mono ?_; rintro e w' ⟨rfl, rfl⟩)
            go_ret
            exact ⟨by rw [HN.out]; rfl, rfl⟩
        · have hkk : k = s.size := by omega
          have HN : Hid ((bl s).all (fun b => letB (b.toNat : Int)) = true) := Lib.hid (by
            have := HR.out
            rw [hkk, ← bl_len, List.take_length] at this
            exact this)
          clear hkk
          go_wp2_with fail
          go_ret
          exact ⟨by rw [HN.out]; rfl, rfl⟩
end Go.Proofs.Ytejmoaloomnmkaa
