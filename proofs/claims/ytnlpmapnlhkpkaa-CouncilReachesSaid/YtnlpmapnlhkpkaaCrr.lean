/-
  WHAT IS REACHED: the document's.
-/
import Derived.Test.YtnlpmapnlhkpkaaCre
import Derived.Deep.QuietTactic
import Derived.BigQuiet
namespace Go.Proofs.Ytnlpmapnlhkpkaa
open Go.RowKit
structure RB (w wq : World) (V : List Int) : Prop where
  b : Below w.heap.size w wq
  x : Blk wq w.heap.size 28 (cellsOf V)
theorem RB.drewN {w wq : World} {V : List Int} (h : RB w wq V) (n : Nat) : RB w (wq.drewN n) V := ⟨h.b.trans ⟨rfl, rfl, rfl, Nat.le_refl _, fun _ _ => rfl⟩, h.x⟩
theorem RB.cell {w wq : World} {V : List Int} (h : RB w wq V) {i : Nat} (hi : i < V.length) : wq.cell? ⟨w.heap.size, i, none⟩ = some (.int .i64 V[i]) := by
  rw [h.x.cell, cellsOf_get _ _ hi]
theorem getD_get (V : List Int) {i : Nat} (hi : i < V.length) : V.getD i 0 = V[i] := by rw [List.getD_eq_getElem?_getD, List.getElem?_eq_getElem hi]; rfl
theorem rhas_q (m n : Int) (w : World) : Calls Try.prog 11 #[.int .i64 m, .int .i64 n] w fun e w' => e = .returned (.bool (hasB m n)) ∧ w' = w := (rhas_any m n w).mono fun _ _ ⟨a, b⟩ => ⟨a, b.symm⟩
def optI (o : Option Int) : Int := o.getD 0
def vf (V : List Int) (i : Nat) : Int := V.getD i 0
set_option maxHeartbeats 4000000 in
theorem rreached_any (m v0 v1 v2 v3 v4 v5 v6 : Int) (w : World) : Calls Try.prog 20 #[.int .i64 m, .agg #[.int .i64 v0, .int .i64 v1, .int .i64 v2, .int .i64 v3, .int .i64 v4, .int .i64 v5, .int .i64 v6]] w fun e w' => e = .returned (.int .i64 (reachedP (kn m) (fun i => [v0, v1, v2, v3, v4, v5, v6].getD i 0))) ∧ Below w.heap.size w w' := by
  obtain ⟨V, hV⟩ : ∃ V : List Int, V = [v0, v1, v2, v3, v4, v5, v6] := ⟨_, rfl⟩
  have hl : V.length = 7 := by rw [hV]; rfl
  have HV := Lib.hid hV
  have HL := Lib.hid hl
  clear hV hl
  have R0 : Hid (RB w (w.alloc (.cells #[.int .i64 v0, .int .i64 v1, .int .i64 v2, .int .i64 v3, .int .i64 v4, .int .i64 v5, .int .i64 v6] 28)) V) := Lib.hid ⟨(Below.refl w.heap.size w).alloc (Nat.le_refl _) _, by rw [HV.out]; exact Blk.new w 28 _⟩
  have hsz := sz_le (kn m)
  go_enter Try.func20, Try.ntmps20
  go_wp2_with fail
  generalize w.alloc (.cells #[.int .i64 v0, .int .i64 v1, .int .i64 v2, .int .i64 v3, .int .i64 v4, .int .i64 v5, .int .i64 v6] 28) = w0 at *
  go_loopw [5, 6, 7] (fun b s i wq => ∃ j : Nat, j ≤ 7 ∧ i = .int .i64 j ∧ b = .int .i64 (optI (bestF (kn m) (vf V) j)) ∧ s = .bool (bestF (kn m) (vf V) j).isSome ∧ RB w wq V) (fun _ _ i _ => 7 - (intOf i).toNat)
  case atStart => exact ⟨0, by omega, rfl, rfl, rfl, R0.out⟩
  case round =>
    obtain ⟨j, hj, rfl, rfl, rfl, hr⟩ := hrel
    have RR := Lib.hid hr
    clear hr R0
    by_cases hlt : j < 7
    · have H := hasB_bt m j hlt
      rcases hd : decide (bt (kn m) j = 1) with _ | _
      · rw [hd] at H
        have S := Lib.hid (bestF_no1 (v := vf V) hd)
        clear hd
        go_wp2_with ((with_reducible refine (rhas_any _ _ _).mono ?_); rintro e w' ⟨rfl, rfl⟩)
        go_roundw
        case rel => exact ⟨j + 1, by omega, by go_num, by rw [S.out], by rw [S.out], RR.out⟩
        case measure => simp [intOf]; omega
      · rw [hd] at H
        have D := Lib.hid hd
        clear hd
        have hjl : j < V.length := by rw [HL.out]; exact hlt
        have VJ := Lib.hid (show vf V j = V[j] from getD_get V hjl)
        go_wp2_with ((with_reducible refine (rhas_any _ _ _).mono ?_); rintro e w' ⟨rfl, rfl⟩)
        go_loopw [8, 9] (fun n i wq => ∃ k : Nat, k ≤ 7 ∧ i = .int .i64 k ∧ n = .int .i64 (cntAt (kn m) (vf V) (vf V j) k) ∧ RB w wq V) (fun _ i _ => 7 - (intOf i).toNat)
        case atStart => exact ⟨0, by omega, rfl, rfl, RR.out⟩
        case round =>
          obtain ⟨k, hk, rfl, rfl, hr2⟩ := hrel
          have RK := Lib.hid hr2
          have cb := cntAt_le (kn m) (vf V) (vf V j) k
          clear hr2
          by_cases hlk : k < 7
          · have HK := hasB_bt m k hlk
            have hkl : k < V.length := by rw [HL.out]; exact hlk
            have VK := Lib.hid (show vf V k = V[k] from getD_get V hkl)
            rcases hdk : decide (bt (kn m) k = 1) with _ | _
            · rw [hdk] at HK
              have S := Lib.hid (cntAt_no1 (v := vf V) (x := vf V j) hdk)
              clear hdk
              go_wp2_with fail
              go_quiet ((go_at_call 11; exact Calls.quiet_of_same (rhas_q _ _ _)))
              go_wp2_with fail
              go_roundw
              case rel => exact ⟨k + 1, by omega, by go_num, by rw [S.out], RK.out.drewN _⟩
              case measure => simp [intOf]; omega
            · rw [hdk] at HK
              have C1 := RK.out.cell hkl
              have C2 := RK.out.cell hjl
              by_cases hle : V[j] ≤ V[k]
              · have S := Lib.hid (cntAt_yes (v := vf V) (x := vf V j) hdk (by rw [VJ.out, VK.out]; exact hle))
                clear hdk
                go_wp2_with fail
                go_quiet ((go_at_call 11; exact Calls.quiet_of_same (rhas_q _ _ _)))
                go_wp2_with fail
                go_roundw
                case rel => exact ⟨k + 1, by omega, by go_num, by rw [S.out]; go_num, RK.out.drewN _⟩
                case measure => simp [intOf]; omega
              · have S := Lib.hid (cntAt_no2 (k := kn m) (v := vf V) (x := vf V j) (j := k) (by rw [VJ.out, VK.out]; exact hle))
                clear hdk
                go_wp2_with fail
                go_quiet ((go_at_call 11; exact Calls.quiet_of_same (rhas_q _ _ _)))
                go_wp2_with fail
                go_roundw
                case rel => exact ⟨k + 1, by omega, by go_num, by rw [S.out], RK.out.drewN _⟩
                case measure => simp [intOf]; omega
          · obtain rfl : k = 7 := by omega
            have RS2 := Lib.hid (rsize_any m)
            have C2 := RK.out.cell hjl
            by_cases hq : sz (kn m) < 2 * cntAt (kn m) (vf V) (vf V j) 7
            · rcases hb : bestF (kn m) (vf V) j with _ | b
              · have S := Lib.hid (bestF_first D.out hq hb)
                have e1 : optI none = 0 := rfl
                clear hb
                go_wp2_with ((with_reducible refine (rsize_any _ _).mono ?_); rintro e w' ⟨rfl, rfl⟩)
                go_roundw
                case rel => exact ⟨j + 1, by omega, by go_num, by rw [S.out, VJ.out]; rfl, by rw [S.out]; rfl, RK.out⟩
                case measure => simp [intOf]; omega
              · by_cases hlb : b < V[j]
                · have S := Lib.hid (bestF_more D.out hq hb (by rw [VJ.out]; exact hlb))
                  have e1 : optI (some b) = b := rfl
                  clear hb
                  go_wp2_with ((with_reducible refine (rsize_any _ _).mono ?_); rintro e w' ⟨rfl, rfl⟩)
                  go_roundw
                  case rel => exact ⟨j + 1, by omega, by go_num, by rw [S.out, VJ.out]; rfl, by rw [S.out]; rfl, RK.out⟩
                  case measure => simp [intOf]; omega
                · have S := Lib.hid (bestF_less D.out hq hb (by rw [VJ.out]; exact hlb))
                  have e1 : optI (some b) = b := rfl
                  clear hb
                  go_wp2_with ((with_reducible refine (rsize_any _ _).mono ?_); rintro e w' ⟨rfl, rfl⟩)
                  go_roundw
                  case rel => exact ⟨j + 1, by omega, by go_num, by rw [S.out]; rfl, by rw [S.out]; rfl, RK.out⟩
                  case measure => simp [intOf]; omega
            · have S := Lib.hid (bestF_no2 (k := kn m) (v := vf V) (i := j) hq)
              go_wp2_with ((with_reducible refine (rsize_any _ _).mono ?_); rintro e w' ⟨rfl, rfl⟩)
              go_roundw
              case rel => exact ⟨j + 1, by omega, by go_num, by rw [S.out], by rw [S.out], RK.out⟩
              case measure => simp [intOf]; omega
    · obtain rfl : j = 7 := by omega
      have BB := Lib.hid RR.out.b
      have BR := Lib.hid (best_reached (kn m) (vf V))
      go_wp2_with fail
      go_ret
      exact ⟨ret_i64 (by have := HV.out; subst this; exact BR.out), BB.out⟩
end Go.Proofs.Ytnlpmapnlhkpkaa
