/-
  THE LAW LexCovers AS A WALK.
-/
import Derived.Test.YtffneogphgodnaaDoorCov
import Derived.Test.YtffneogphgodnaaDoorAwk
import Derived.Deep.QuietTactic
import Derived.BigQuiet
import Derived.Deep.DeepCutAuto
import Derived.Deep.CutBlock
namespace Go.Proofs.YtffneogphgodnaaDoor
open Go.RowKit
theorem below_drewN {B : Nat} {a w : World} (h : Below B a w) (n : Nat) : Below B a (w.drewN n) := ⟨h.os, h.tape, h.output, h.size, h.block⟩
set_option maxHeartbeats 4000000 in
set_option maxRecDepth 100000 in
theorem covers_law (s : ByteArray) (hs : s.size ≤ 9223372036854775807) (w : World) : Calls Tryd.prog 4 #[.string s] w fun e w' => e = .returned (.bool true) ∧ Below w.heap.size w w' := by
  obtain ⟨L, hL⟩ : ∃ L, (scanO s).T = L := ⟨_, rfl⟩
  obtain ⟨a0, ha0⟩ : ∃ a, ((scanO s).at_ : Int) = a := ⟨_, rfl⟩
  by_cases he : (scanO s).e = 0
  · have SC := Lib.hid (fun W => scan_met s hs hL ha0 he W)
    have HC := Lib.hid (scan_cov he)
    rw [hL] at HC
    obtain ⟨n, hn⟩ : ∃ n, L.length = n := ⟨_, rfl⟩
    have HN := Lib.hid hn
    rw [hn] at SC
    have hn0 : 0 < n := by rw [← hn]; exact HC.out.some
    have h46 : s.size ≤ 4096 := by
      have h := he
      unfold scanO at h
      split at h
      · cases h
      · omega
    have hn4 : n ≤ 4097 := by have := cov_len HC.out; omega
    clear hL ha0 he hn
    generalize hy : w.heap.size = Y at *
    go_enter Tryd.func4, Tryd.ntmps4
    go_wp2_with fail
    refine (SC.out _).mono ?_
    rintro e w1 ⟨p, cp, rfl, T1, b1⟩
    have T1h := Lib.hid T1
    have B1h : Hid (Below Y w w1) := Lib.hid (hy ▸ b1)
    clear T1 b1
    go_wp2_with fail
    go_loopw [7, 6] (fun i q wq => ∃ j : Nat, i = .int .i64 j ∧ q = .int .i64 (endAt L j) ∧ j ≤ n ∧ Below Y w wq ∧ Toks wq p L) (fun i _ _ => n - (intOf i).toNat)
    case atStart => exact ⟨0, rfl, rfl, Nat.zero_le _, B1h.out, T1h.out⟩
    case round =>
      obtain ⟨j, rfl, rfl, hj, hB, hT⟩ := hrel
      have HB := Lib.hid hB
      have HT := Lib.hid hT
      clear hB hT
      by_cases hjn : j < n
      · have hjL : j < L.length := by rw [HN.out]; exact hjn
        obtain ⟨g0, o, rfl, hg0, c0, c1, c2, c3, c4⟩ := HT.out j hjL
        obtain ⟨⟨hA, hZ, hX, hK⟩, hk0, ht0⟩ := HC.out.at_ j L[j] (List.getElem?_eq_getElem hjL)
        have hE1 : endAt L (j + 1) = L[j].at_ + L[j].t.size := by
          unfold endAt
          rw [if_neg (by omega), Nat.add_sub_cancel, List.getElem?_eq_getElem hjL]; rfl
        rw [HN.out] at hk0 ht0
        generalize L[j] = x at *
        obtain ⟨xk, xa, xt, xn, xs⟩ := x
        simp only at c0 c1 c2 c3 c4 hA hZ hX hK hk0 ht0 hE1
        have HKb := Lib.hid hK
        generalize hE : endAt L j = E at *
        have HE1 := Lib.hid hE1
        clear hK hE1 hE
        obtain ⟨lb, hlb⟩ : ∃ b : Bool, decide (j + 1 = n) = b := ⟨_, rfl⟩
        have k0 : (xk == 0) = lb := by rw [← hlb]; apply Bool.eq_iff_iff.2; simp only [beq_iff_eq, decide_eq_true_eq]; exact hk0
        have e0 : (xt.toList == []) = lb := by
          rw [← hlb]
          by_cases hz : xt.size = 0
          · rw [decide_eq_true (ht0.1 hz), ba_empty hz]; simp [ByteArray.toList_eq]
          · rw [(ba_some (b := xt) (by omega)).1, decide_eq_false (fun h => hz (ht0.2 h))]
        obtain ⟨M, hM⟩ : ∃ M, M = n - 1 := ⟨_, rfl⟩
        have hw3 : IntKind.i64.wrap ((n : Int) - 1) = (M : Int) := by
          rw [show ((n : Int) - 1) = (M : Int) by omega]; exact IntWalk.i64_in _ (by omega)
        have m0 : ((j : Int) == (M : Int)) = lb := by
          rw [← hlb]; apply Bool.eq_iff_iff.2; simp only [beq_iff_eq, decide_eq_true_eq]; omega
        have m0' : (j == M) = lb := by
          rw [← hlb]; apply Bool.eq_iff_iff.2; simp only [beq_iff_eq, decide_eq_true_eq]; omega
        clear hlb hk0 ht0 hM
        have d1 : decide (xa < E) = false := decide_eq_false (by omega)
        have d2 : decide (s.size < xa) = false := decide_eq_false (by omega)
        obtain ⟨D, hD⟩ : ∃ D, D = s.size - xa := ⟨_, rfl⟩
        have hw1 : IntKind.i64.wrap ((s.size : Int) - (xa : Int)) = (D : Int) := by
          rw [show ((s.size : Int) - (xa : Int)) = (D : Int) by omega]; exact IntWalk.i64_in _ (by omega)
        have d3 : decide (D < xt.size) = false := decide_eq_false (by omega)
        obtain ⟨H, hH⟩ : ∃ H, H = xa + xt.size := ⟨_, rfl⟩
        have hw2 : IntKind.i64.wrap ((xa : Int) + (xt.size : Int)) = (H : Int) := by
          rw [show ((xa : Int) + (xt.size : Int)) = (H : Int) by omega]; exact IntWalk.i64_in _ (by omega)
        rw [← hH] at hX
        have hH1 : xa ≤ H := by omega
        have hH2 : H ≤ s.size := by omega
        have HH := Lib.hid hH
        have HE2 : Hid (endAt L (j + 1) = H) := Lib.hid (by rw [HE1.out, hH])
        clear hH hD HE1
        obtain ⟨w5, hw5, N5, B5, T5⟩ : ∃ w5, w5 = wr.alloc (.cells #[.int .i64 xk, .int .i64 xa, .string xt, .int .i64 xn, .string xs] 34) ∧ Blk w5 wr.heap.size 34 #[.int .i64 xk, .int .i64 xa, .string xt, .int .i64 xn, .string xs] ∧ Below Y w w5 ∧ Toks w5 (some ⟨g0, o, none⟩) L :=
          ⟨_, rfl, Blk.new wr 34 _, HB.out.alloc (by have := HB.out.size; omega) _, HT.out.below ((Below.refl _ _).alloc (Nat.le_refl _) _)⟩
        have W5 := Lib.hid hw5
        have N5h := Lib.hid N5
        have B5h := Lib.hid B5
        have T5h := Lib.hid T5
        have n0 : w5.cell? ⟨wr.heap.size, 0, none⟩ = some (.int .i64 xk) := N5.cell 0
        have n1 : w5.cell? ⟨wr.heap.size, 1, none⟩ = some (.int .i64 xa) := N5.cell 1
        have n2 : w5.cell? ⟨wr.heap.size, 2, none⟩ = some (.string xt) := N5.cell 2
        clear hw5 N5 B5 T5
        go_upto_region 9 with fail
        rw [← W5.out]
        clear W5 c0 c1 c2 c3 c4
        generalize wr.heap.size = X at *
        have hne : ∀ c : Int, blankB c = true → c = 32 ∨ c = 9 ∨ c = 10 ∨ c = 13 := fun c h => by
          unfold blankB at h
          simp only [Bool.or_eq_true, decide_eq_true_eq] at h
          omega
        have HNE := Lib.hid hne
        clear hne
        cases lb
        all_goals
          go_quiet (fail)
          have N6 : Blk (w5.drewN nq) X 34 #[.int .i64 xk, .int .i64 xa, .string xt, .int .i64 xn, .string xs] := N5h.out
          have B6h := Lib.hid (below_drewN B5h.out nq)
          have T6h : Hid (Toks (w5.drewN nq) (some ⟨g0, o, none⟩) L) := T5h
          clear n0 n1 n2
          generalize w5.drewN nq = w6 at *
          have n1 : w6.cell? ⟨X, 1, none⟩ = some (.int .i64 xa) := N6.cell 1
          have n2 : w6.cell? ⟨X, 2, none⟩ = some (.string xt) := N6.cell 2
          clear N6 d1 d2 d3 hw1 hX m0 m0' k0 e0 hw3
          go_wp2_with fail
          go_loop [9] (fun i => ∃ k : Nat, i = .int .i64 k ∧ E ≤ k ∧ k ≤ xa) (fun i => xa - (intOf i).toNat)
          case atStart => exact ⟨E, rfl, Nat.le_refl _, hA⟩
          case round =>
            obtain ⟨k, rfl, hk1, hk2⟩ := hrel
            by_cases hka : k < xa
            · have hks : k < s.size := by omega
              have hb := HKb.out k hk1 hka
              have hby : byt s k = (s[k].toNat : Int) := by
                unfold byt
                rw [List.getD_eq_getElem?_getD, List.getElem?_eq_getElem (by rw [bl_len]; exact hks), Option.getD_some, bl_at s k hks]
              rw [hby] at hb
              have hc := HNE.out _ hb
              clear hb hby
              go_wp2_with fail
              all_goals first
                | (exfalso; simp only [bne_eq_false_iff_eq, bne_iff_ne, ne_eq] at *; omega)
                | (go_round
                   case rel => exact ⟨k + 1, by go_num, by omega, by omega⟩
                   case measure => simp [intOf]; omega)
                | (refine ⟨⟨k + 1, by go_num, by omega, by omega⟩, ?_⟩; simp [intOf]; omega)
            · have hka' : ¬ (k : Int) < (xa : Int) := by omega
              go_wp2_with fail
              go_roundw
              case rel => exact ⟨j + 1, by go_num, by rw [HE2.out], by omega, B6h.out, T6h.out⟩
              case measure => simp [intOf]; omega
      · obtain rfl : j = n := by omega
        have HL := Lib.hid (show endAt L j = s.size by have := HC.out.e; rw [HN.out] at this; exact this)
        have hjp : (0 : Int) < (j : Int) := by omega
        go_wp2_with fail
        refine (awake_any _).mono ?_
        rintro e w6 ⟨rfl, b6⟩
        have B6h := Lib.hid (HB.out.trans (b6.mono (by have := HB.out.size; omega)))
        clear b6
        rw [HL.out]
        go_wp2_with fail
        go_ret
        exact ⟨ret_bool (by simp), B6h.out⟩
  · have HZ := scanO_none he
    rw [hL] at HZ
    have SC := Lib.hid (fun W => scan_met s hs hL ha0 rfl W)
    rw [HZ] at SC
    have he' : ((scanO s).e != 0) = true := by simpa using he
    clear hL ha0 HZ he
    generalize (scanO s).e = E at *
    have SC : Hid (∀ W, Calls Tryd.prog 7 #[.string s] W (fun er w' => ∃ p cp, er = .returned (.tuple #[.slice p 0 cp, .int .i64 a0, .int .i64 E]) ∧ Toks w' p [] ∧ Below W.heap.size W w')) := SC
    generalize hy : w.heap.size = Y at *
    go_enter Tryd.func4, Tryd.ntmps4
    go_wp2_with fail
    refine (SC.out _).mono ?_
    rintro e w1 ⟨p, cp, rfl, _, b1⟩
    have B1h : Hid (Below Y w w1) := Lib.hid (hy ▸ b1)
    clear b1
    go_wp2_with fail
    refine (awake_any _).mono ?_
    rintro e w2 ⟨rfl, b2⟩
    have B2h : Hid (Below Y w w2) := Lib.hid (B1h.out.trans (b2.mono (by rw [← hy]; exact B1h.out.size)))
    clear b2
    go_wp2_with fail
    go_ret
    exact ⟨rfl, B2h.out⟩
end Go.Proofs.YtffneogphgodnaaDoor
