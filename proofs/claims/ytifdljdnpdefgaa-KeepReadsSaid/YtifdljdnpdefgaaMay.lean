/-
  MAY A TRACK BE KEPT: the document's May.
-/
import Derived.Test.YtifdljdnpdefgaaTrk
namespace Go.Proofs.Ytifdljdnpdefgaa
open Go.RowKit
def riseR (P : List Int) : Prop := ∀ k, k + 1 < P.length → P.getD k 0 < P.getD (k + 1) 0
theorem getD0_le {P : List Int} (h : riseR P) : ∀ k, k < P.length → P.getD 0 0 ≤ P.getD k 0
  | 0, _ => Int.le_refl _
  | k + 1, hk => by
    have h1 := getD0_le h k (by omega)
    have h2 := h k hk
    omega
theorem le_last {P : List Int} (h : riseR P) : ∀ d k, k + d < P.length → P.getD k 0 ≤ P.getD (k + d) 0
  | 0, _, _ => Int.le_refl _
  | d + 1, k, hk => by
    have h1 := le_last h d k (by omega)
    have h2 := h (k + d) (by omega)
    rw [show k + (d + 1) = k + d + 1 by omega]
    omega
theorem rise_of {P : List Int} (h : riseB P = true) : riseR P := fun k hk => by
  unfold riseB at h
  rw [List.all_eq_true] at h
  have h1 := h (k + 1) (List.mem_range.2 hk)
  unfold okAt at h1
  simp only [Bool.and_eq_true, Bool.or_eq_true, decide_eq_true_eq, beq_iff_eq, Nat.add_sub_cancel] at h1
  omega
theorem of_rise {P : List Int} (h : riseR P) (h0 : 0 ≤ P.getD 0 0) (hl : P.getD (P.length - 1) 0 ≤ 549755813888) : riseB P = true := rise_true (fun i hi => by
  have h1 := getD0_le h i hi
  have h2 := le_last h (P.length - 1 - i) i (by omega)
  rw [show i + (P.length - 1 - i) = P.length - 1 by omega] at h2
  unfold okAt idxB
  simp only [Bool.and_eq_true, Bool.or_eq_true, decide_eq_true_eq, beq_iff_eq]
  refine ⟨by omega, ?_⟩
  by_cases h3 : i = 0
  · exact .inl h3
  · right
    have := h (i - 1) (by omega)
    rw [show i - 1 + 1 = i by omega] at this
    exact this)
theorem run_parts {r : Rn} (h : runB r = true) : 0 ≤ r.t ∧ 0 ≤ r.s ∧ r.s < 64 ∧ 0 < r.P.length ∧ r.P.length < 16 ∧ r.P.getD 0 0 = r.b ∧ 0 ≤ r.b ∧ r.P.getD (r.P.length - 1) 0 ≤ 549755813888 ∧ riseR r.P := by
  unfold runB pickB at h
  simp only [Bool.and_eq_true, decide_eq_true_eq, beq_iff_eq] at h
  obtain ⟨k1, k2, k3, k4, k5, k6, k7⟩ := h
  have k9 := rise_of k7
  unfold riseB at k7
  rw [List.all_eq_true] at k7
  have a0 := k7 0 (List.mem_range.2 k4)
  have a1 := k7 (r.P.length - 1) (List.mem_range.2 (by omega))
  unfold okAt idxB at a0 a1
  simp only [Bool.and_eq_true, Bool.or_eq_true, decide_eq_true_eq] at a0 a1
  exact ⟨k1, k2, k3, k4, k5, k6, by omega, by omega, k9⟩
theorem parts_run {r : Rn} (h1 : 0 ≤ r.t) (h2 : 0 ≤ r.s) (h3 : r.s < 64) (h4 : 0 < r.P.length) (h5 : r.P.length < 16) (h6 : r.P.getD 0 0 = r.b) (h7 : 0 ≤ r.b) (h8 : r.P.getD (r.P.length - 1) 0 ≤ 549755813888) (h9 : riseR r.P) : runB r = true := by
  unfold runB pickB
  rw [decide_eq_true h1, decide_eq_true h2, decide_eq_true h3, decide_eq_true h4, decide_eq_true h5, of_rise h9 (by omega) h8, h6]
  simp
theorem run_no {r : Rn} (h : ¬ (0 ≤ r.t ∧ 0 ≤ r.s ∧ r.s < 64 ∧ 0 < r.P.length ∧ r.P.length < 16 ∧ r.P.getD 0 0 = r.b ∧ 0 ≤ r.b ∧ r.P.getD (r.P.length - 1) 0 ≤ 549755813888 ∧ riseR r.P)) : runB r = false := by
  cases e : runB r
  · rfl
  · exact absurd (run_parts e) h

set_option maxHeartbeats 16000000 in
set_option maxRecDepth 100000 in
theorem rmay_any (c t l : Int) (L : List Rn) (a : Option Addr) (cp : Nat) (w : World) (hR : Rns w a L) (hP : ∀ r ∈ L, r.P.length ≤ 140737488355328) : Calls Try.prog 17 #[trackV c t l (.slice a L.length cp)] w fun e w' => e = .returned (.bool (keepB c t l L)) ∧ Below w.heap.size w w' := by
  unfold trackV
  have bA := (Below.refl _ w).alloc (Nat.le_refl _) (.cells #[.int .i64 c, .int .i64 t, .int .i64 l, .slice a L.length cp] 34)
  have BA := Lib.hid bA
  have RA := Lib.hid (hR.below bA)
  have K := Blk.new w 34 #[.int .i64 c, .int .i64 t, .int .i64 l, .slice a L.length cp]
  have HP := Lib.hid hP
  clear hR bA hP
  generalize hm : L.length = m at *
  have HM := Lib.hid hm
  clear hm
  have c0 := K.cell 0
  have c1 := K.cell 1
  have c2 := K.cell 2
  have c3 := K.cell 3
  simp only [List.getElem?_toArray, List.getElem?_cons_zero, List.getElem?_cons_succ] at c0 c1 c2 c3
  have KH := Lib.hid K
  clear K
  generalize hK : keepB c t l L = kb at *
  have HK := Lib.hid hK
  clear hK

  by_cases h1 : c < 0
  · have RH : Hid (kb = false) := Lib.hid (by
      cases e : kb
      · rfl
      · have h := HK.out.trans e
        unfold keepB idxB at h
        simp only [Bool.and_eq_true, decide_eq_true_eq] at h
        have := HM.out
        omega)
    go_enter Try.func17, Try.ntmps17
    go_wp2_with fail
    go_ret
    exact ⟨by first | (rw [RH.out]; done) | (rw [RH.out]; rfl), BA.out⟩

  by_cases h2 : 549755813888 < c
  · have RH : Hid (kb = false) := Lib.hid (by
      cases e : kb
      · rfl
      · have h := HK.out.trans e
        unfold keepB idxB at h
        simp only [Bool.and_eq_true, decide_eq_true_eq] at h
        have := HM.out
        omega)
    go_enter Try.func17, Try.ntmps17
    go_wp2_with fail
    go_ret
    exact ⟨by first | (rw [RH.out]; done) | (rw [RH.out]; rfl), BA.out⟩

  by_cases h3 : l < 0
  · have RH : Hid (kb = false) := Lib.hid (by
      cases e : kb
      · rfl
      · have h := HK.out.trans e
        unfold keepB idxB at h
        simp only [Bool.and_eq_true, decide_eq_true_eq] at h
        have := HM.out
        omega)
    go_enter Try.func17, Try.ntmps17
    go_wp2_with fail
    go_ret
    exact ⟨by first | (rw [RH.out]; done) | (rw [RH.out]; rfl), BA.out⟩

  by_cases h4 : 549755813888 < l
  · have RH : Hid (kb = false) := Lib.hid (by
      cases e : kb
      · rfl
      · have h := HK.out.trans e
        unfold keepB idxB at h
        simp only [Bool.and_eq_true, decide_eq_true_eq] at h
        have := HM.out
        omega)
    go_enter Try.func17, Try.ntmps17
    go_wp2_with fail
    go_ret
    exact ⟨by first | (rw [RH.out]; done) | (rw [RH.out]; rfl), BA.out⟩

  by_cases h5 : t < 0
  · have RH : Hid (kb = false) := Lib.hid (by
      cases e : kb
      · rfl
      · have h := HK.out.trans e
        unfold keepB idxB at h
        simp only [Bool.and_eq_true, decide_eq_true_eq] at h
        have := HM.out
        omega)
    go_enter Try.func17, Try.ntmps17
    go_wp2_with fail
    go_ret
    exact ⟨by first | (rw [RH.out]; done) | (rw [RH.out]; rfl), BA.out⟩

  by_cases h6 : 64 < (m : Int)
  · have RH : Hid (kb = false) := Lib.hid (by
      cases e : kb
      · rfl
      · have h := HK.out.trans e
        unfold keepB idxB at h
        simp only [Bool.and_eq_true, decide_eq_true_eq] at h
        have := HM.out
        omega)
    go_enter Try.func17, Try.ntmps17
    go_wp2_with fail
    go_ret
    exact ⟨by first | (rw [RH.out]; done) | (rw [RH.out]; rfl), BA.out⟩

  have HF : Hid (L.all runB = kb) := Lib.hid (by
    rw [← HK.out]; unfold keepB idxB
    have := HM.out
    rw [decide_eq_true (by omega : 0 ≤ c), decide_eq_true (by omega : c ≤ 549755813888), decide_eq_true (by omega : 0 ≤ l), decide_eq_true (by omega : l ≤ 549755813888), decide_eq_true (by omega : 0 ≤ t), decide_eq_true (by omega : L.length ≤ 64)]; rfl)
  go_enter Try.func17, Try.ntmps17
  go_wp2_with fail
  have KH2 : Hid (Blk (w.alloc (.cells #[.int .i64 c, .int .i64 t, .int .i64 l, .slice a m cp] 34)) w.heap.size 34 #[.int .i64 c, .int .i64 t, .int .i64 l, .slice a m cp]) := KH
  generalize w.alloc (.cells #[.int .i64 c, .int .i64 t, .int .i64 l, .slice a m cp] 34) = W at *
  clear c0 c1 c2 c3 h1 h2 h3 h4 h5 HK KH
  generalize hY : w.heap.size = Y at *
  go_loopw [3] (fun i wq => ∃ j : Nat, i = .int .i64 (j : Int) ∧ j ≤ m ∧ (∀ k (hk : k < L.length), k < j → runB L[k] = true) ∧ Below Y w wq ∧ Rns wq a L ∧ Blk wq Y 34 #[.int .i64 c, .int .i64 t, .int .i64 l, .slice a m cp]) (fun i _ => m - (intOf i).toNat)
  case atStart => exact ⟨0, rfl, Nat.zero_le _, fun k _ hk => absurd hk (Nat.not_lt_zero k), BA.out, RA.out, KH2.out⟩
  case round =>
    obtain ⟨j, rfl, hjm, hj, hb, hr, hk⟩ := hrel
    have HJ := Lib.hid hj
    have HB := Lib.hid hb
    have HR := Lib.hid hr
    have HKK := Lib.hid hk
    have c3 : wr.cell? ⟨Y, 3, none⟩ = some (.slice a m cp) := hk.cell 3
    clear hj hb hr BA RA hk KH2
    by_cases hlt : j < m
    rotate_left
    · have hlt' : ¬ (j : Int) < (m : Int) := by omega
      have RH : Hid (kb = true) := Lib.hid (by
        rw [← HF.out]
        exact all_true (fun i hi => HJ.out i hi (by rw [HM.out] at hi; omega)))
      go_wp2_with fail
      go_ret
      exact ⟨by first | (rw [RH.out]; done) | (rw [RH.out]; rfl), HB.out⟩
    have hlt' : (j : Int) < (m : Int) := by omega
    have hjL : j < L.length := by rw [HM.out]; exact hlt
    obtain ⟨g, o, q, cq, e, hg, d0, d1, d2, d3, d4, hi, hcap⟩ := HR.out j hjL
    clear hcap
    subst e
    have AF := Lib.hid (fun (h : runB L[j] = false) => all_false (f := runB) hjL h)
    have NX := Lib.hid (fun (h : runB L[j] = true) => fun k (hk : k < L.length) (hk2 : k < j + 1) => show runB L[k] = true from by
      by_cases h2 : k < j
      · exact HJ.out k hk h2
      · have : k = j := by omega
        subst this
        exact h)
    have hp := HP.out L[j] (List.getElem_mem hjL)
    generalize L[j] = r at *
    obtain ⟨rb, rt, rs, rn, P⟩ := r
    simp only at d0 d1 d2 d3 d4 hi hp
    have bB := (Below.refl _ wr).alloc (Nat.le_refl _) (.cells #[.int .i64 rb, .int .i64 rt, .int .i64 rs, .int .u64 rn, .slice q P.length cq] 51)
    have BN := Lib.hid (HB.out.trans (bB.mono (by have := HKK.out.lt; omega)))
    have RN := Lib.hid (HR.out.below bB)
    have KN := Lib.hid (HKK.out.below bB HKK.out.lt)
    have IN := Lib.hid (hi.below bB)
    have KR := Lib.hid (Blk.new wr 51 #[.int .i64 rb, .int .i64 rt, .int .i64 rs, .int .u64 rn, .slice q P.length cq])
    have RF := Lib.hid (run_no (r := ⟨rb, rt, rs, rn, P⟩))
    have RT := Lib.hid (parts_run (r := ⟨rb, rt, rs, rn, P⟩))
    simp only at RF RT
    have e0 : (wr.alloc (.cells #[.int .i64 rb, .int .i64 rt, .int .i64 rs, .int .u64 rn, .slice q P.length cq] 51)).cell? ⟨wr.heap.size, 0, none⟩ = some (.int .i64 rb) := KR.out.cell 0
    have e1 : (wr.alloc (.cells #[.int .i64 rb, .int .i64 rt, .int .i64 rs, .int .u64 rn, .slice q P.length cq] 51)).cell? ⟨wr.heap.size, 1, none⟩ = some (.int .i64 rt) := KR.out.cell 1
    have e2 : (wr.alloc (.cells #[.int .i64 rb, .int .i64 rt, .int .i64 rs, .int .u64 rn, .slice q P.length cq] 51)).cell? ⟨wr.heap.size, 2, none⟩ = some (.int .i64 rs) := KR.out.cell 2
    have e4 : (wr.alloc (.cells #[.int .i64 rb, .int .i64 rt, .int .i64 rs, .int .u64 rn, .slice q P.length cq] 51)).cell? ⟨wr.heap.size, 4, none⟩ = some (.slice q P.length cq) := KR.out.cell 4
    clear hi hg bB
    generalize hn : P.length = n at *
    have HNN := Lib.hid hn
    clear hn
    generalize hV : wr.alloc (.cells #[.int .i64 rb, .int .i64 rt, .int .i64 rs, .int .u64 rn, .slice q n cq] 51) = V at *
    have HV := Lib.hid hV
    clear hV
    have HK := KR.out.lt
    by_cases t1 : n = 0
    · have RH : Hid (kb = false) := Lib.hid (by rw [← HF.out]; exact AF.out (RF.out (by omega)))
      clear NX AF RF RT
      subst t1
      go_wp2_with fail
      rw [HV.out]
      go_quiet (fail)
      go_wp2_with fail
      go_ret
      exact ⟨by first | (rw [RH.out]; done) | (rw [RH.out]; rfl), by rw [hY]; exact below_drewN BN.out nq⟩
    have b1 : decide ((n : Int) < 1) = false := decide_eq_false (by omega)
    have b1' : ¬ (n : Int) < 1 := by omega
    obtain ⟨qb, qo, hq, hqb, f0⟩ := IN.out 0 (by have := HNN.out; omega)
    rw [Nat.add_zero] at f0
    have HG0 : Hid (P.getD 0 0 = P[0]'(by have := HNN.out; omega)) := Lib.hid (getD_at (by have := HNN.out; omega))
    generalize hp0 : P[0]'(by have := HNN.out; omega) = p0 at *
    subst hq
    have hnl : n - 1 < P.length := by have := HNN.out; omega
    obtain ⟨_, _, hq2, hqb2, f1⟩ := IN.out (n - 1) hnl
    cases hq2
    have HG1 := Lib.hid (getD_at hnl)
    generalize hpl : P[n - 1] = pl at *
    rw [HG0.out, HG1.out] at RF RT
    have f1' : V.cell? ⟨qb, qo + ((n : Int) - 1).toNat, none⟩ = some (.int .i64 pl) := by rw [show ((n : Int) - 1).toNat = n - 1 by omega]; exact f1
    have x0 : ¬ ((n : Int) - 1 < 0) := by omega
    have x1 : (n : Int) - 1 < (n : Int) := by omega
    have x2 : 0 ≤ (n : Int) - 1 := by omega
    have x3 : IntKind.i64.wrap ((n : Int) - 1) = (n : Int) - 1 := IntWalk.i64_in _ (by omega)
    have x4 : wrap64 ((n : Int) - 1) = (n : Int) - 1 := IntWalk.wrap64_in _ (by omega)
    have x5 : 1 ≤ n := by omega
    have x6 : (1 : Int) ≤ (n : Int) := by omega
    have x7 : 0 < n := by omega
    clear HG0 HG1 hp0 hpl hqb hqb2 t1

    by_cases t2 : 15 < (n : Int)
    · have b2 : decide (15 < (n : Int)) = true := decide_eq_true t2
      have RH : Hid (kb = false) := Lib.hid (by rw [← HF.out]; exact AF.out (RF.out (by omega)))
      clear NX AF RF RT
      go_wp2_with fail
      rw [HV.out]
      go_quiet (fail)
      go_wp2_with fail
      go_ret
      exact ⟨by first | (rw [RH.out]; done) | (rw [RH.out]; rfl), by rw [hY]; exact below_drewN BN.out nq⟩
    have b2 : decide (15 < (n : Int)) = false := decide_eq_false t2
    by_cases t3 : rb < 0
    · have b3 : decide (rb < 0) = true := decide_eq_true t3
      have RH : Hid (kb = false) := Lib.hid (by rw [← HF.out]; exact AF.out (RF.out (by omega)))
      clear NX AF RF RT
      go_wp2_with fail
      rw [HV.out]
      go_quiet (fail)
      go_wp2_with fail
      go_ret
      exact ⟨by first | (rw [RH.out]; done) | (rw [RH.out]; rfl), by rw [hY]; exact below_drewN BN.out nq⟩
    have b3 : decide (rb < 0) = false := decide_eq_false t3
    by_cases t4 : rt < 0
    · have b4 : decide (rt < 0) = true := decide_eq_true t4
      have RH : Hid (kb = false) := Lib.hid (by rw [← HF.out]; exact AF.out (RF.out (by omega)))
      clear NX AF RF RT
      go_wp2_with fail
      rw [HV.out]
      go_quiet (fail)
      go_wp2_with fail
      go_ret
      exact ⟨by first | (rw [RH.out]; done) | (rw [RH.out]; rfl), by rw [hY]; exact below_drewN BN.out nq⟩
    have b4 : decide (rt < 0) = false := decide_eq_false t4
    by_cases t5 : rs < 0
    · have b5 : decide (rs < 0) = true := decide_eq_true t5
      have RH : Hid (kb = false) := Lib.hid (by rw [← HF.out]; exact AF.out (RF.out (by omega)))
      clear NX AF RF RT
      go_wp2_with fail
      rw [HV.out]
      go_quiet (fail)
      go_wp2_with fail
      go_ret
      exact ⟨by first | (rw [RH.out]; done) | (rw [RH.out]; rfl), by rw [hY]; exact below_drewN BN.out nq⟩
    have b5 : decide (rs < 0) = false := decide_eq_false t5
    by_cases t6 : 63 < rs
    · have b6 : decide (63 < rs) = true := decide_eq_true t6
      have RH : Hid (kb = false) := Lib.hid (by rw [← HF.out]; exact AF.out (RF.out (by omega)))
      clear NX AF RF RT
      go_wp2_with fail
      rw [HV.out]
      go_quiet (fail)
      go_wp2_with fail
      go_ret
      exact ⟨by first | (rw [RH.out]; done) | (rw [RH.out]; rfl), by rw [hY]; exact below_drewN BN.out nq⟩
    have b6 : decide (63 < rs) = false := decide_eq_false t6
    by_cases t7 : p0 = rb
    rotate_left
    · have b7 : (p0 == rb) = false := by simpa using t7
      have b7' : (p0 != rb) = true := by simpa using t7
      have RH : Hid (kb = false) := Lib.hid (by rw [← HF.out]; exact AF.out (RF.out (by omega)))
      clear NX AF RF RT
      go_wp2_with fail
      rw [HV.out]
      go_quiet (fail)
      go_wp2_with fail
      go_ret
      exact ⟨by first | (rw [RH.out]; done) | (rw [RH.out]; rfl), by rw [hY]; exact below_drewN BN.out nq⟩
    subst t7
    have b7 : (p0 == p0) = true := by simp
    have b7' : (p0 != p0) = false := by simp
    by_cases t8 : 549755813888 < pl
    · have b8 : decide (549755813888 < pl) = true := decide_eq_true t8
      have RH : Hid (kb = false) := Lib.hid (by rw [← HF.out]; exact AF.out (RF.out (by omega)))
      clear NX AF RF RT
      go_wp2_with fail
      rw [HV.out]
      go_quiet (fail)
      go_wp2_with fail
      go_ret
      exact ⟨by first | (rw [RH.out]; done) | (rw [RH.out]; rfl), by rw [hY]; exact below_drewN BN.out nq⟩
    have b8 : decide (549755813888 < pl) = false := decide_eq_false t8
    have RT2 := Lib.hid (RT.out (by omega) (by omega) (by omega) (by omega) (by omega) rfl (by omega) (by omega))
    have RF2 : Hid (¬ riseR P → runB ⟨p0, rt, rs, rn, P⟩ = false) := Lib.hid (fun h => RF.out (fun h2 => h h2.2.2.2.2.2.2.2.2))
    clear RT RF
    go_wp2_with fail
    rw [HV.out]
    go_quiet (fail)
    have BQ := Lib.hid (below_drewN BN.out nq)
    have RQ : Hid (Rns (V.drewN nq) (some ⟨g, o, none⟩) L) := RN
    have KQ : Hid (Blk (V.drewN nq) Y 34 #[.int .i64 c, .int .i64 t, .int .i64 l, .slice (some ⟨g, o, none⟩) m cp]) := KN
    have IQ : Hid (Ints (V.drewN nq) (some ⟨qb, qo, none⟩) P) := IN
    have KE : Hid (Blk (V.drewN nq) wr.heap.size 51 #[.int .i64 p0, .int .i64 rt, .int .i64 rs, .int .u64 rn, .slice (some ⟨qb, qo, none⟩) n cq]) := KR
    have hn1 : 1 ≤ n := x5
    clear HV BN RN KN IN KR e0 e1 e2 e4 f0 f1 f1' HK x0 x1 x2 x3 x4 x5 x6 x7 b1 b1' b2 b3 b4 b5 b6 b7 b7' b8
    generalize V.drewN nq = U at *
    generalize wr.heap.size = T at *
    have HT := KE.out.lt
    go_wp2_with fail
    go_loopw [6] (fun i wq => ∃ k : Nat, i = .int .i64 (k : Int) ∧ 1 ≤ k ∧ k ≤ n ∧ (∀ k', k' + 1 < k → P.getD k' 0 < P.getD (k' + 1) 0) ∧ Below Y w wq ∧ Below U.heap.size U wq) (fun i _ => n - (intOf i).toNat)
    case atStart => exact ⟨1, rfl, Nat.le_refl _, hn1, fun k hk => by omega, BQ.out, Below.refl _ _⟩
    case round =>
      obtain ⟨k, rfl, hk1, hkn, hk, hb, hu⟩ := hrel
      have HQ := Lib.hid hk
      have HB2 := Lib.hid hb
      have HU := Lib.hid hu
      clear hk hb hu
      by_cases hl2 : k < n
      rotate_left
      · have l1 : ¬ (k : Int) < (n : Int) := by omega
        have NX1 := Lib.hid (NX.out (RT2.out (fun k' hk' => HQ.out k' (by have := HNN.out; omega))))
        have KX := Lib.hid (KQ.out.below HU.out KQ.out.lt)
        have RX := Lib.hid (RQ.out.below HU.out)
        go_wp2_with fail
        go_roundw
        case rel => exact ⟨j + 1, by go_num, by omega, NX1.out, HB2.out, RX.out, KX.out⟩
        case measure => simp [intOf]; omega
      have l1 : (k : Int) < (n : Int) := by omega
      have hk2 : k < P.length := by have := HNN.out; omega
      have hk0 : k - 1 < P.length := by omega
      obtain ⟨_, _, e1, _, z1⟩ := IQ.out.below HU.out k hk2
      cases e1
      obtain ⟨_, _, e2, _, z0⟩ := IQ.out.below HU.out (k - 1) hk0
      cases e2
      have f4 : wr.cell? ⟨T, 4, none⟩ = some (.slice (some ⟨qb, qo, none⟩) n cq) := (KE.out.below HU.out KE.out.lt).cell 4
      have G1 := Lib.hid (getD_at hk2)
      have G0 := Lib.hid (getD_at hk0)
      generalize P[k] = p1 at *
      generalize P[k - 1] = pk at *
      have z0' : wr.cell? ⟨qb, qo + ((k : Int) - 1).toNat, none⟩ = some (.int .i64 pk) := by rw [show ((k : Int) - 1).toNat = k - 1 by omega]; exact z0
      have x0 : ¬ ((k : Int) - 1 < 0) := by omega
      have x1 : (k : Int) - 1 < (n : Int) := by omega
      have x2 : 0 ≤ (k : Int) - 1 := by omega
      have x3 : IntKind.i64.wrap ((k : Int) - 1) = (k : Int) - 1 := IntWalk.i64_in _ (by omega)
      have x4 : wrap64 ((k : Int) - 1) = (k : Int) - 1 := IntWalk.wrap64_in _ (by omega)
      have x6 : (1 : Int) ≤ (k : Int) := by omega
      have x7 : 0 < k := by omega
      by_cases hc : pk < p1
      · have cB : decide (p1 ≤ pk) = false := decide_eq_false (by omega)
        have cB2 : ¬ p1 ≤ pk := by omega
        go_wp2_with fail
        go_quiet (fail)
        go_wp2_with fail
        go_roundw
        case rel =>
          refine ⟨k + 1, by go_num, by omega, by omega, fun k' hk' => ?_, below_drewN HB2.out nq, below_drewN HU.out nq⟩
          by_cases h : k' + 1 < k
          · exact HQ.out k' h
          · have e : k' = k - 1 := by omega
            rw [e, G0.out, show k - 1 + 1 = k by omega, G1.out]; exact hc
        case measure => simp [intOf]; omega
      · have cB : decide (p1 ≤ pk) = true := decide_eq_true (by omega)
        have cB2 : p1 ≤ pk := by omega
        have RH : Hid (kb = false) := Lib.hid (by
          rw [← HF.out]; refine AF.out (RF2.out (fun h => ?_))
          have := h (k - 1) (by have := HNN.out; omega)
          rw [show k - 1 + 1 = k by omega, G0.out, G1.out] at this
          exact hc this)
        go_wp2_with fail
        go_quiet (fail)
        go_wp2_with fail
        go_ret
        exact ⟨by first | (rw [RH.out]; done) | (rw [RH.out]; rfl), by rw [hY]; exact below_drewN HB2.out nq⟩
end Go.Proofs.Ytifdljdnpdefgaa