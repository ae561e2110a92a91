/-
  THE LAW LexMoves AS A WALK.
-/
import Derived.Test.YtkliolnjcflleaaDoorMov
import Derived.Test.YtkliolnjcflleaaDoorClaw
namespace Go.Proofs.YtkliolnjcflleaaDoor
open Go.RowKit
set_option maxHeartbeats 4000000 in
set_option maxRecDepth 100000 in
theorem moves_law (s : ByteArray) (n : Int) (hs : s.size ≤ 9223372036854775807) (w : World) : Calls Tryd.prog 5 #[.string s, .int .i64 n] w fun e w' => e = .returned (.bool true) ∧ Below w.heap.size w w' := by
  obtain ⟨r, hr⟩ : ∃ r, r = Int.tmod n 90 := ⟨_, rfl⟩
  have hr1 : -90 < r := by rw [hr]; have := Int.lt_tmod_of_pos n (show (0 : Int) < 90 by decide); omega
  have hr2 : r < 90 := by rw [hr]; exact Int.tmod_lt_of_pos n (by decide)
  obtain ⟨N, hN⟩ : ∃ N : Nat, (N : Int) = Int.tmod (r + 90) 90 := ⟨(Int.tmod (r + 90) 90).toNat, by have := Int.tmod_nonneg 90 (show 0 ≤ r + 90 by omega); omega⟩
  have hN2 : N < 90 := by have := Int.tmod_lt_of_pos (r + 90) (show (0 : Int) < 90 by decide); omega
  have q1 : IntKind.i64.wrap r = r := IntWalk.i64_in _ (by omega)
  have q2 : IntKind.i64.wrap (r + 90) = r + 90 := IntWalk.i64_in _ (by omega)
  have q3 : IntKind.i64.wrap (N : Int) = (N : Int) := IntWalk.i64_in _ (by omega)
  replace hr := hr.symm
  replace hN := hN.symm
  generalize hy : w.heap.size = Y at *
  by_cases h4 : 4000 < s.size
  · have h4' : (4000 : Int) < (s.size : Int) := by omega
    clear hr1 hr2 hs
    go_enter Tryd.func5, Tryd.ntmps5
    go_wp2_with fail
    refine (awake_any _).mono ?_
    rintro e w2 ⟨rfl, b2⟩
    have B2h := Lib.hid b2
    clear b2
    go_wp2_with fail
    go_ret
    exact ⟨rfl, hy ▸ B2h.out⟩
  · have h4' : ¬ (4000 : Int) < (s.size : Int) := by omega
    have HS := Lib.hid (show s.size ≤ 4000 by omega)
    have HR := Lib.hid (And.intro hr1 hr2)
    clear h4 hr1 hr2 hs
    go_enter Tryd.func5, Tryd.ntmps5
    go_wp2_with fail
    go_loop [6, 5] (fun i q => ∃ j : Nat, i = .int .i64 j ∧ q = .string (mb j) ∧ j ≤ N) (fun i _ => N - (intOf i).toNat)
    case atStart => exact ⟨0, rfl, rfl, Nat.zero_le _⟩
    case round =>
      obtain ⟨j, rfl, rfl, hj⟩ := hrel
      by_cases hjn : j < N
      · have m1 : Int.tmod (j : Int) 4 = ((j % 4 : Nat) : Int) := rfl
        have m2 : mb (j + 1) = mb j ++ fourB.extract (j % 4) (j % 4 + 1) := rfl
        have hq := Nat.mod_lt j (show 4 > 0 by decide)
        have f1 := four_size j
        have f2 := mb_size j
        obtain ⟨A, hA⟩ : ∃ A, A = mb j := ⟨_, rfl⟩
        have HM := Lib.hid (show mb (j + 1) = A ++ fourB.extract (j % 4) (j % 4 + 1) by rw [hA]; exact m2)
        rw [← hA] at f2 ⊢
        generalize j % 4 = q at *
        clear m2 hA
        unfold fourB at HM f1
        go_wp2_with fail
        go_round
        case rel => exact ⟨j + 1, by go_num, by rw [HM.out], by omega⟩
        case measure => simp [intOf]; omega
      · have hjn' : ¬ (j : Int) < (N : Int) := by omega
        obtain rfl : j = N := by omega
        have f2 := mb_size j
        have hs4 := HS.out
        obtain ⟨L, hL⟩ : ∃ L, (scanO s).T = L := ⟨_, rfl⟩
        obtain ⟨a0, ha0⟩ : ∃ a : Nat, (scanO s).at_ = a := ⟨_, rfl⟩
        obtain ⟨e0, he0⟩ : ∃ e, (scanO s).e = e := ⟨_, rfl⟩
        obtain ⟨b0, hb0⟩ : ∃ b : Nat, (if e0 = 0 then a0 else a0 + j) = b := ⟨_, rfl⟩
        have hO : scanO (mb j ++ s) = ⟨L.map (sh j), b0, e0⟩ := by
          rw [scanO_app _ _ (fun k hk => mb_blank j k (by rw [f2] at hk; exact hk)) (by rw [f2]; omega)]
          unfold shO
          rw [f2, hL, ha0, he0, hb0]
        have SC1 := Lib.hid (fun W => scan_met s (by omega) hL (show ((scanO s).at_ : Int) = (a0 : Int) by rw [ha0]) he0 W)
        have SC2 := Lib.hid (fun W => scan_met (mb j ++ s) (by rw [ByteArray.size_append, f2]; omega) (L := L.map (sh j)) (a := (b0 : Int)) (e := e0) (by rw [hO]) (by rw [hO]) (by rw [hO]) W)
        rw [List.length_map] at SC2
        have HP : Hid (∀ x ∈ L, x.at_ ≤ 4000) := Lib.hid fun x hx => by
          by_cases h : (scanO s).e = 0
          · obtain ⟨i, hi, rfl⟩ := List.getElem_of_mem hx
            have C := scan_cov h
            rw [hL] at C
            have := (C.at_ i _ (List.getElem?_eq_getElem hi)).1.z
            omega
          · have := scanO_none h
            rw [hL] at this
            rw [this] at hx
            cases hx
        have hm4 : L.length ≤ 4001 := by
          by_cases h : (scanO s).e = 0
          · have := cov_len (scan_cov h)
            rw [hL] at this
            omega
          · have := scanO_none h
            rw [hL] at this
            rw [this]
            exact Nat.zero_le _
        have ha4 : a0 ≤ 4000 := by have := scanO_at s; omega
        obtain ⟨m, hm⟩ : ∃ m, L.length = m := ⟨_, rfl⟩
        rw [hm] at SC1 SC2 hm4
        have HN := Lib.hid hm
        have hw1 : IntKind.i64.wrap ((b0 : Int) - (j : Int)) = (a0 : Int) ∨ e0 = 0 := by
          by_cases h : e0 = 0
          · exact .inr h
          · rw [if_neg h] at hb0
            refine .inl ?_
            rw [show ((b0 : Int) - (j : Int)) = (a0 : Int) by omega]; exact IntWalk.i64_in _ (by omega)
        have hz : (e0 != 0) = true ∨ e0 = 0 := by
          by_cases h : e0 = 0
          · exact .inr h
          · exact .inl (by simpa using h)
        have hov : ¬ 9223372036854775807 < (mb j).size + s.size := by omega
        generalize mb j = M at *
        clear hL ha0 he0 hb0 hO hm ha4 hs4 f2
        have HC := Lib.hid (And.intro hw1 hz)
        clear hw1 hz
        have hN90 := Lib.hid hN2
        clear hN2 hj
        go_wp2_with fail
        refine (SC1.out _).mono ?_
        rintro e w1 ⟨p, cp, rfl, T1, b1⟩
        have T1h := Lib.hid T1
        have B1h : Hid (Below Y w w1) := Lib.hid (hy ▸ b1)
        clear T1 b1
        go_wp2_with fail
        refine (SC2.out _).mono ?_
        rintro e w2 ⟨p2, cp2, rfl, T2, b2⟩
        have T1i := Lib.hid (T1h.out.below b2)
        have T2i := Lib.hid T2
        have B2h := Lib.hid (B1h.out.trans (b2.mono (by rw [← hy]; exact B1h.out.size)))
        clear T2 b2 T1h B1h
        obtain ⟨hw1, hz⟩ := HC.out
        rcases hz with hz | rfl
        case' inl =>
          have hw1 : IntKind.i64.wrap ((b0 : Int) - (j : Int)) = (a0 : Int) := by
            rcases hw1 with h | rfl
            · exact h
            · cases hz
        case' inr => clear hw1
        all_goals
          clear HC
          go_wp2_with fail
          go_loopw [13] (fun i wq => ∃ k : Nat, i = .int .i64 k ∧ k ≤ m ∧ Below Y w wq ∧ Toks wq p L ∧ Toks wq p2 (L.map (sh j))) (fun i _ => m - (intOf i).toNat)
          case atStart => exact ⟨0, rfl, Nat.zero_le _, B2h.out, T1i.out, T2i.out⟩
          case round =>
            obtain ⟨k, rfl, hk, hB, hT, hT2⟩ := hrel
            have HB := Lib.hid hB
            by_cases hkm : k < m
            · have HK := Lib.hid hkm
              have hkL : k < L.length := by rw [HN.out]; exact hkm
              have hkM : k < (L.map (sh j)).length := by rw [List.length_map]; exact hkL
              obtain ⟨g0, o, rfl, hg0, c0, c1, c2, c3, c4⟩ := hT k hkL
              obtain ⟨g1, o1, rfl, hg1, d0, d1, d2, d3, d4⟩ := hT2 k hkM
              have HT := Lib.hid hT
              have HT2 := Lib.hid hT2
              have hP := HP.out L[k] (List.getElem_mem hkL)
              have hx : (L.map (sh j))[k] = sh j L[k] := List.getElem_map ..
              rw [hx] at d0 d1 d2 d3 d4
              clear hB hT hT2 hk hx hkM
              generalize L[k] = x at *
              obtain ⟨xk, xa, xt, xn, xs⟩ := x
              simp only [sh] at c0 c1 c2 c3 c4 d0 d1 d2 d3 d4 hP
              obtain ⟨X, hX⟩ : ∃ X, X = xa + j := ⟨_, rfl⟩
              rw [← hX] at d1
              have h9 := hN90.out
              have hw : IntKind.i64.wrap ((X : Int) - (j : Int)) = (xa : Int) := by
                rw [show ((X : Int) - (j : Int)) = (xa : Int) by omega]; exact IntWalk.i64_in _ (by omega)
              clear hX h9 hP hkL
              obtain ⟨w5, hw5, B5, b5, N5⟩ : ∃ w5, w5 = wr.alloc (.cells #[.int .i64 xk, .int .i64 xa, .string xt, .int .i64 xn, .string xs] 34) ∧ Below Y w w5 ∧ Below wr.heap.size wr w5 ∧ Blk w5 wr.heap.size 34 #[.int .i64 xk, .int .i64 xa, .string xt, .int .i64 xn, .string xs] :=
                ⟨_, rfl, HB.out.alloc (by have := HB.out.size; omega) _, (Below.refl _ _).alloc (Nat.le_refl _) _, Blk.new wr 34 _⟩
              have W5 := Lib.hid hw5
              have B5h := Lib.hid B5
              have T5h := Lib.hid (HT.out.below b5)
              have T5i := Lib.hid (HT2.out.below b5)
              have q0 := b5.cell (p := ⟨g0, o + k * 5, none⟩) hg0
              have q1 := b5.cell (p := ⟨g0, o + k * 5 + 1, none⟩) hg0
              have q2 := b5.cell (p := ⟨g0, o + k * 5 + 2, none⟩) hg0
              have q3 := b5.cell (p := ⟨g0, o + k * 5 + 3, none⟩) hg0
              have q4 := b5.cell (p := ⟨g0, o + k * 5 + 4, none⟩) hg0
              rw [c0] at q0
              rw [c1] at q1
              rw [c2] at q2
              rw [c3] at q3
              rw [c4] at q4
              have n0 := N5.cell 0
              have n1 := N5.cell 1
              have n2 := N5.cell 2
              have n3 := N5.cell 3
              have n4 := N5.cell 4
              clear hw5 B5 b5 N5 HT HT2 HB T1i T2i B2h
              go_upto_region 18 with fail
              rw [← W5.out]
              clear W5 c0 c1 c2 c3 c4 d0 d1 d2 d3 d4 hw
              generalize wr.heap.size = Z at *
              go_quiet (fail)
              have B6h := Lib.hid (below_drewN B5h.out nq)
              have T6h : Hid (Toks (w5.drewN nq) (some ⟨g0, o, none⟩) L) := T5h
              have T6i : Hid (Toks (w5.drewN nq) (some ⟨g1, o1, none⟩) (L.map (sh j))) := T5i
              clear n0 n1 n2 n3 n4 q0 q1 q2 q3 q4 T5h T5i B5h
              generalize w5.drewN nq = w6 at *
              go_wp2_with fail
              go_roundw
              case rel => exact ⟨k + 1, by go_num, by have := HK.out; omega, B6h.out, T6h.out, T6i.out⟩
              case measure => have := HK.out; simp [intOf]; omega
            · have hkm' : ¬ (k : Int) < (m : Int) := by omega
              clear hT hT2
              go_wp2_with fail
              refine (awake_any _).mono ?_
              rintro e w6 ⟨rfl, b6⟩
              have B6h := Lib.hid (HB.out.trans (b6.mono (by have := HB.out.size; omega)))
              clear b6
              go_wp2_with fail
              go_ret
              exact ⟨rfl, B6h.out⟩
end Go.Proofs.YtkliolnjcflleaaDoor
