/-
  A TRACK's TEXT: Write of one that may be kept.
-/
import Derived.Test.YtifdljdnpdefgaaWri
namespace Go.Proofs.Ytifdljdnpdefgaa
open Go.RowKit
/-- a run's box, and what has come since -/
abbrev SR (W : World) (T : Nat) (v0 v1 v2 v3 v4 : Value) (w' : World) : Prop := w'.cell? ⟨T, 0, none⟩ = some v0 ∧ w'.cell? ⟨T, 1, none⟩ = some v1 ∧ w'.cell? ⟨T, 2, none⟩ = some v2 ∧ w'.cell? ⟨T, 3, none⟩ = some v3 ∧ w'.cell? ⟨T, 4, none⟩ = some v4 ∧ Below W.heap.size W w'
theorem SR.of {W w' : World} {T t : Nat} {v0 v1 v2 v3 v4 : Value} (K : Blk W T t #[v0, v1, v2, v3, v4]) (h : Below W.heap.size W w') : SR W T v0 v1 v2 v3 v4 w' :=
  have k := K.below h K.lt
  ⟨k.cell 0, k.cell 1, k.cell 2, k.cell 3, k.cell 4, h⟩
theorem SR.alloc {W w' : World} {T t : Nat} {v0 v1 v2 v3 v4 : Value} (K : Hid (Blk W T t #[v0, v1, v2, v3, v4])) (h : SR W T v0 v1 v2 v3 v4 w') (o : Obj) : SR W T v0 v1 v2 v3 v4 (w'.alloc o) := SR.of K.out (h.2.2.2.2.2.alloc h.2.2.2.2.2.size o)
theorem SR.below {W w' w2 : World} {T t : Nat} {v0 v1 v2 v3 v4 : Value} (K : Hid (Blk W T t #[v0, v1, v2, v3, v4])) (h : SR W T v0 v1 v2 v3 v4 w') (b : Below w'.heap.size w' w2) : SR W T v0 v1 v2 v3 v4 w2 := SR.of K.out (h.2.2.2.2.2.trans (b.mono h.2.2.2.2.2.size))
theorem Blk.drew {w : World} {g t : Nat} {cs : Array Value} (h : Blk w g t cs) : Blk w.drew g t cs := h
theorem Blk.al {w : World} {g t : Nat} {cs : Array Value} (h : Blk w g t cs) (o : Obj) : Blk (w.alloc o) g t cs := h.below ((Below.refl _ w).alloc (Nat.le_refl _) o) h.lt
theorem Blk.new2 (w : World) (t : TypeId) (cs : Array Value) {g : Nat} (h : g = w.heap.size) : Blk (w.alloc (.cells cs t)) g t cs := h ▸ Blk.new w t cs
theorem Blk.over {w w' : World} {g t : Nat} {cs : Array Value} (h : Blk w g t cs) (b : Below w.heap.size w w') : Blk w' g t cs := h.below b h.lt
theorem app_nil (a : ByteArray) : a ++ (⟨#[]⟩ : ByteArray) = a := ByteArray.ext (by simp)
theorem belowAlloc {W w' : World} (h : Below W.heap.size W w') (o : Obj) : Below W.heap.size W (w'.alloc o) := h.alloc h.size o
theorem belowTrans {W w' w2 : World} (h : Below W.heap.size W w') (b : Below w'.heap.size w' w2) : Below W.heap.size W w2 := h.trans (b.mono h.size)
/-- at the head of the round over a run's picks -/
structure Wi (w wq : World) (L : List Rn) (g o qb qo T n cq : Nat) (P : List Int) (b t s m : Int) : Prop where
  bw : Below w.heap.size w wq
  rw : Rns wq (some ⟨g, o, none⟩) L
  pw : Ints wq (some ⟨qb, qo, none⟩) P
  kw : Blk wq T 46 #[.int .i64 b, .int .i64 t, .int .i64 s, .int .u64 m, .slice (some ⟨qb, qo, none⟩) n cq]
theorem Wi.below {w wq w' : World} {L : List Rn} {g o qb qo T n cq : Nat} {P : List Int} {b t s m : Int} (h : Wi w wq L g o qb qo T n cq P b t s m) (hb : Below wq.heap.size wq w') : Wi w w' L g o qb qo T n cq P b t s m :=
  ⟨h.bw.trans (hb.mono h.bw.size), h.rw.below hb, h.pw.below hb, h.kw.below hb h.kw.lt⟩
set_option maxHeartbeats 16000000 in
set_option maxRecDepth 100000 in
theorem write_ok {c t l : Int} {L : List Rn} (a : Option Addr) (cp : Nat) (w : World) (hR : Rns w a L) (hP : ∀ r ∈ L, r.P.length ≤ 140737488355328) (hU : ∀ r ∈ L, r.t ≤ 9223372036854775807 ∧ 0 ≤ r.n ∧ r.n < 18446744073709551616) (hk : keepB c t l L = true) (ht : t ≤ 9223372036854775807) : Calls Try.prog 8 #[trackV c t l (.slice a L.length cp)] w fun e w' => e = .returned (.tuple #[.string (textS c t l L), .int .i64 0]) ∧ Below w.heap.size w w' := by
  have bA := (Below.refl _ w).alloc (Nat.le_refl _) (.cells #[.int .i64 c, .int .i64 t, .int .i64 l, .slice a L.length cp] 24)
  have TM := Lib.hid (tmay_any c t l L a cp _ (hR.below bA) hP)
  rw [hk] at TM
  have BA := Lib.hid bA
  have RA := Lib.hid (hR.below bA)
  have KK := Lib.hid (Blk.new w 24 #[.int .i64 c, .int .i64 t, .int .i64 l, .slice a L.length cp])
  have HU := Lib.hid hU
  obtain ⟨kc, kt, kl, kn, kr⟩ := keep_bd hk
  have KR := Lib.hid kr
  have HT : Hid (runsS (catN [c, t, l, (L.length : Int)]) L = textS c t l L) := rfl
  have hz4 := catN_size [c, t, l, (L.length : Int)]
  simp only [List.length_cons, List.length_nil] at hz4
  have N4 := Lib.hid (fun g W h0 h1 h2 h3 => nums4 c t l (L.length : Int) g W h0 h1 h2 h3 (by omega) (by omega) (by omega) (by omega))
  clear hR bA hk hP hU kr
  generalize catN [c, t, l, (L.length : Int)] = S0 at *
  generalize textS c t l L = TS at *
  unfold trackV at *
  generalize hm : L.length = m at *
  have HM := Lib.hid hm
  clear hm
  go_enter Try.func8, Try.ntmps8
  go_wp2_with fail
  refine TM.out.mono ?_
  rintro e w1 ⟨rfl, b1⟩
  have B1 := Lib.hid (BA.out.trans (b1.mono BA.out.size))
  have R1 := Lib.hid (RA.out.below b1)
  have K1 := Lib.hid (KK.out.below b1 KK.out.lt)
  clear b1 BA RA KK TM
  have d0 : w1.cell? ⟨w.heap.size, 0, none⟩ = some (.int .i64 c) := K1.out.cell 0
  have d1 : w1.cell? ⟨w.heap.size, 1, none⟩ = some (.int .i64 t) := K1.out.cell 1
  have d2 : w1.cell? ⟨w.heap.size, 2, none⟩ = some (.int .i64 l) := K1.out.cell 2
  have d3 : w1.cell? ⟨w.heap.size, 3, none⟩ = some (.slice a m cp) := K1.out.cell 3
  have bB := (Below.refl _ w1).alloc (Nat.le_refl _) (.cells #[.int .i64 c, .int .i64 t, .int .i64 l, .int .i64 (m : Int)] 3)
  have KB := Blk.new w1 3 #[.int .i64 c, .int .i64 t, .int .i64 l, .int .i64 (m : Int)]
  have N4b := Lib.hid (N4.out _ _ (KB.cell 0) (KB.cell 1) (KB.cell 2) (KB.cell 3))
  have B2 := Lib.hid (B1.out.trans (bB.mono B1.out.size))
  have R2 := Lib.hid (R1.out.below bB)
  have K2 := Lib.hid (K1.out.below bB K1.out.lt)
  clear bB KB N4
  go_wp2_with fail
  refine N4b.out.mono ?_
  rintro e w3 ⟨rfl, b3⟩
  have B3 := Lib.hid (B2.out.trans (b3.mono B2.out.size))
  have R3 := Lib.hid (R2.out.below b3)
  have d4 : w3.cell? ⟨w.heap.size, 3, none⟩ = some (.slice a m cp) := (K2.out.below b3 K2.out.lt).cell 3
  clear b3 B2 R2 K2 B1 R1 K1 N4b d0 d1 d2 d3
  go_wp2_with fail
  clear d4
  go_loopw [4, 26] (fun s i wq => ∃ j : Nat, s = .string (runsS S0 (L.take j)) ∧ i = .int .i64 (j : Int) ∧ j ≤ m ∧ Below w.heap.size w wq ∧ Rns wq a L) (fun _ i _ => m - (intOf i).toNat)
  case atStart => exact ⟨0, rfl, rfl, Nat.zero_le _, B3.out, R3.out⟩
  case round =>
    obtain ⟨j, rfl, rfl, hjm, hb, hr⟩ := hrel
    have HB := Lib.hid hb
    have HR := Lib.hid hr
    clear hb hr B3 R3
    by_cases hlt : j < m
    rotate_left
    · have hlt' : ¬ (j : Int) < (m : Int) := by omega
      have RH : Hid (runsS S0 (L.take j) = TS) := Lib.hid (by rw [List.take_of_length_le (by rw [HM.out]; omega), HT.out])
      go_wp2_with fail
      go_ret2
      exact ⟨by first | (rw [RH.out]; done) | (rw [RH.out]; rfl), HB.out⟩
    have hlt' : (j : Int) < (m : Int) := by omega
    have hjL : j < L.length := by rw [HM.out]; exact hlt
    obtain ⟨g, o, q, cq, e, hg, d0, d1, d2, d3, d4, hi, hcap⟩ := HR.out j hjL
    subst e
    have hr := KR.out L[j] (List.getElem_mem hjL)
    have hu := HU.out L[j] (List.getElem_mem hjL)
    have HC : Hid (runsS S0 (L.take (j + 1)) = runsS S0 (L.take j) ++ runS L[j]) := Lib.hid (by rw [List.take_succ_eq_append_getElem hjL, runsS_snoc])
    have hA := runsS_size (L.take j) S0 (fun r hr => (KR.out r (List.mem_of_mem_take hr)).2.2.2.2.1)
    rw [List.length_take] at hA
    generalize runsS S0 (L.take j) = A at *
    generalize L[j] = r at *
    obtain ⟨rb, rt, rs, rn, P⟩ := r
    simp only at d0 d1 d2 d3 d4 hi hr hu hcap
    have HCAP := Lib.hid hcap
    clear hcap
    obtain ⟨r1, ⟨r2, r3⟩, ⟨r4, r5⟩, r6, r7, r8⟩ := hr
    obtain ⟨u1, u2, u3⟩ := hu
    have N3 := Lib.hid (fun g W (k : Blk W g 3 #[.int .i64 rb, .int .i64 rt, .int .i64 rs]) => nums3 rb rt rs g W (k.cell 0) (k.cell 1) (k.cell 2) (by omega) (by omega) (by omega))
    have NN := Lib.hid (fun W => Bt.num_any rn u2 u3 W)
    have N1 := Lib.hid (fun g W (k : Blk W g 3 #[.int .i64 (P.length : Int)]) => nums1 (P.length : Int) g W (k.cell 0) (by omega))
    have bB := (Below.refl _ wr).alloc (Nat.le_refl _) (.cells #[.int .i64 rb, .int .i64 rt, .int .i64 rs, .int .u64 rn, .slice q P.length cq] 46)
    have BN := Lib.hid (HB.out.trans (bB.mono HB.out.size))
    have RN := Lib.hid (HR.out.below bB)
    have PN := Lib.hid (hi.below bB)
    have KR2 := Lib.hid (Blk.new wr 46 #[.int .i64 rb, .int .i64 rt, .int .i64 rs, .int .u64 rn, .slice q P.length cq])
    have z3 := catN_size [rb, rt, rs]
    have z1 := catN_size [(P.length : Int)]
    have zn := Bt.numS_size rn
    simp only [List.length_cons, List.length_nil] at z3 z1
    have e0 : (wr.alloc (.cells #[.int .i64 rb, .int .i64 rt, .int .i64 rs, .int .u64 rn, .slice q P.length cq] 46)).cell? ⟨wr.heap.size, 0, none⟩ = some (.int .i64 rb) := KR2.out.cell 0
    have e1 : (wr.alloc (.cells #[.int .i64 rb, .int .i64 rt, .int .i64 rs, .int .u64 rn, .slice q P.length cq] 46)).cell? ⟨wr.heap.size, 1, none⟩ = some (.int .i64 rt) := KR2.out.cell 1
    have e2 : (wr.alloc (.cells #[.int .i64 rb, .int .i64 rt, .int .i64 rs, .int .u64 rn, .slice q P.length cq] 46)).cell? ⟨wr.heap.size, 2, none⟩ = some (.int .i64 rs) := KR2.out.cell 2
    have e3 : (wr.alloc (.cells #[.int .i64 rb, .int .i64 rt, .int .i64 rs, .int .u64 rn, .slice q P.length cq] 46)).cell? ⟨wr.heap.size, 3, none⟩ = some (.int .u64 rn) := KR2.out.cell 3
    have e4 : (wr.alloc (.cells #[.int .i64 rb, .int .i64 rt, .int .i64 rs, .int .u64 rn, .slice q P.length cq] 46)).cell? ⟨wr.heap.size, 4, none⟩ = some (.slice q P.length cq) := KR2.out.cell 4
    have hH : Hid (A ++ (catN [rb, rt, rs] ++ Bt.numS rn ++ catN [(P.length : Int)]) = A ++ headS ⟨rb, rt, rs, rn, P⟩) := rfl
    obtain ⟨qb, qo, hq, hq1, hq2⟩ := hi 0 r6
    clear hq1 hq2
    subst hq
    have R8 := Lib.hid r8
    clear bB hi hg r8
    have hp16 := r7
    have hp0 := r6
    have hAz := hA
    have q1 : ¬ (9223372036854775807 < (catN [rb, rt, rs]).size + (Bt.numS rn).size) := by omega
    have q2 : ¬ (9223372036854775807 < (catN [rb, rt, rs]).size + (Bt.numS rn).size + (catN [(P.length : Int)]).size) := by omega
    have q3 : ¬ (9223372036854775807 < A.size + ((catN [rb, rt, rs]).size + (Bt.numS rn).size + (catN [(P.length : Int)]).size)) := by omega
    have q4 : ¬ (9223372036854775807 < (catN [rb, rt, rs]).size + ((Bt.numS rn).size + (catN [(P.length : Int)]).size)) := by omega
    have q5 : ¬ (9223372036854775807 < A.size + ((catN [rb, rt, rs]).size + ((Bt.numS rn).size + (catN [(P.length : Int)]).size))) := by omega
    have q6 : ¬ (9223372036854775807 < A.size + (catN [rb, rt, rs]).size + (Bt.numS rn).size + (catN [(P.length : Int)]).size) := by omega
    generalize catN [rb, rt, rs] = B3 at *
    generalize catN [(P.length : Int)] = B1 at *
    generalize Bt.numS rn = BN2 at *
    go_wp2_with fail
    generalize wr.alloc (.cells #[.int .i64 rb, .int .i64 rt, .int .i64 rs, .int .u64 rn, .slice (some ⟨qb, qo, none⟩) P.length cq] 46) = W at *
    generalize wr.heap.size = T at *
    have S1 := SR.of KR2.out ((Below.refl W.heap.size W).drew)
    clear e0 e1 e2 e3 e4 hA z3 z1 zn
    generalize hn : P.length = n at *
    have HNN := Lib.hid hn
    clear hn
    go_region_held3 (fun w' => w'.cell? ⟨T, 0, none⟩ = some (.int .i64 rb) ∧ w'.cell? ⟨T, 1, none⟩ = some (.int .i64 rt) ∧ w'.cell? ⟨T, 2, none⟩ = some (.int .i64 rs) ∧ w'.cell? ⟨T, 3, none⟩ = some (.int .u64 rn) ∧ w'.cell? ⟨T, 4, none⟩ = some (.slice (some ⟨qb, qo, none⟩) n cq) ∧ Below W.heap.size W w')
      (first | (with_reducible exact S1) | (refine SR.of KR2.out ?_; (repeat (with_reducible first | assumption | exact Below.refl _ _ | refine Below.drew ?_ | refine belowAlloc ?_ _)); done))
      (first
        | (go_at_call 16; refine (NN.out _).mono ?_; rintro e w7 ⟨rfl, b7⟩; have c7 : Below W.heap.size W w7 := belowTrans (by (repeat (with_reducible first | assumption | exact Below.refl _ _ | refine Below.drew ?_ | refine belowAlloc ?_ _))) b7)
        | (go_at_call 15; with_reducible refine (N3.out _ _ ?_).mono ?_; rotate_left; (rintro e w8 ⟨rfl, b8⟩; have c8 : Below W.heap.size W w8 := belowTrans (by (repeat (with_reducible first | assumption | exact Below.refl _ _ | refine Below.drew ?_ | refine belowAlloc ?_ _))) b8); rotate_left; (repeat (with_reducible first | assumption | exact Blk.new2 _ _ _ rfl | exact Blk.new2 _ _ _ (by simp; done) | refine Blk.over ?_ b7 | refine Blk.over ?_ b8 | refine Blk.drew ?_ | refine Blk.al ?_ _)))
        | (go_at_call 15; with_reducible refine (N1.out _ _ ?_).mono ?_; rotate_left; (rintro e w9 ⟨rfl, b9⟩; have c9 : Below W.heap.size W w9 := belowTrans (by (repeat (with_reducible first | assumption | exact Below.refl _ _ | refine Below.drew ?_ | refine belowAlloc ?_ _))) b9); rotate_left; (repeat (with_reducible first | assumption | exact Blk.new2 _ _ _ rfl | exact Blk.new2 _ _ _ (by simp; done) | refine Blk.over ?_ b7 | refine Blk.over ?_ b8 | refine Blk.drew ?_ | refine Blk.al ?_ _))))
    all_goals
      have C9 := Lib.hid (SR.of KR2.out c9)
      have c10 := c9
      have f4 : w9.cell? ⟨T, 4, none⟩ = some (.slice (some ⟨qb, qo, none⟩) n cq) := C9.out.2.2.2.2.1
      have hn1 : (1 : Int) ≤ (n : Int) := by omega
      have W9 : Hid (Wi w w9 L g o qb qo T n cq P rb rt rs rn) := Lib.hid ⟨BN.out.trans (c10.mono BN.out.size), RN.out.below c10, PN.out.below c10, KR2.out.below c10 KR2.out.lt⟩
      clear c7 c8 c9 b7 b8 b9 S1 N3 NN N1 q1 q2 q3 q4 q5 q6 c10 C9
      generalize A ++ (B3 ++ BN2 ++ B1) = H at *
      by_cases hcq : cq = 1
    all_goals
      have HCQ := Lib.hid hcq
      have hHz : Hid (H.size ≤ 100000) := Lib.hid (by
        rw [hH.out, ByteArray.size_append]
        have := headS_size ⟨rb, rt, rs, rn, P⟩
        omega)
      go_wp2_with fail
      clear f4 hcq
      go_loopw [4, 54] (fun s i wq => ∃ k : Nat, s = .string (H ++ catS (gaps P k)) ∧ i = .int .i64 (k : Int) ∧ k ≤ n - 1 ∧ Wi w wq L g o qb qo T n cq P rb rt rs rn) (fun _ i _ => n - (intOf i).toNat)
      case atStart => exact ⟨0, by rw [show catS (gaps P 0) = ⟨#[]⟩ from rfl, app_nil], rfl, Nat.zero_le _, W9.out⟩
      case round =>
        obtain ⟨k, rfl, rfl, hkn, hW⟩ := hrel
        have HW := Lib.hid hW
        clear hW W9
        by_cases hk2 : k < n - 1
        rotate_left
        · have l1 : ¬ (k : Int) < ((n - 1 : Nat) : Int) := by omega
          have l2 : ¬ (k : Int) < (n : Int) - 1 := by omega
          go_wp2_with fail
          have HF : Hid (runsS S0 (L.take (j + 1)) = H ++ catS (gaps P k)) := Lib.hid (by
            rw [HC.out, hH.out]
            unfold runS
            simp only
            rw [← app_assoc, HNN.out, show k = n - 1 by omega])
          go_roundw
          case rel => exact ⟨j + 1, by rw [HF.out], by go_num, by omega, HW.out.bw, HW.out.rw⟩
          case measure => simp [intOf]; omega
        · have l1 : (k : Int) < ((n - 1 : Nat) : Int) := by omega
          have l2 : (k : Int) < (n : Int) - 1 := by omega
          have l3 : (k : Int) < (n : Int) := by omega
          try (exfalso; have h1 := HCAP.out; have h2 := HCQ.out; omega)
          all_goals
            have hk1 : k + 1 < P.length := by rw [HNN.out]; omega
            have hk0 : k < P.length := by omega
            obtain ⟨_, _, e1, _, z1⟩ := HW.out.pw (k + 1) hk1
            cases e1
            obtain ⟨_, _, e2, _, z0⟩ := HW.out.pw k hk0
            cases e2
            have z1' := z1
            rw [show qo + (k + 1) = qo + 1 + k by omega] at z1'
            have f4 : wr.cell? ⟨T, 4, none⟩ = some (.slice (some ⟨qb, qo, none⟩) n cq) := HW.out.kw.cell 4
            have o1 := R8.out (k + 1) (by omega)
            have o0 := R8.out k (by omega)
            have HGS : Hid (catS (gaps P (k + 1)) = catS (gaps P k) ++ catN [P[k + 1] - P[k] - 1]) := Lib.hid (by rw [gaps_succ, catS_snoc, getD_at hk1, getD_at hk0])
            have hz := catS_size (gaps P k)
            have hgl : (gaps P k).length = k := by unfold gaps; rw [List.length_map, List.length_range]
            have hz2 := catN_size [P[k + 1] - P[k] - 1]
            unfold okAt idxB at o1 o0
            rw [getD_at hk1, Nat.add_sub_cancel, getD_at hk0] at o1
            rw [getD_at hk0] at o0
            simp only [Bool.and_eq_true, Bool.or_eq_true, beq_iff_eq, decide_eq_true_eq] at o1 o0
            generalize P[k + 1] = p1 at *
            generalize P[k] = p0 at *
            obtain ⟨⟨a1, a2⟩, a3⟩ := o1
            have a0 := o0.1
            have a4 : p0 < p1 := by omega
            have NS := Lib.hid (nums1 (p1 - p0 - 1) wr.heap.size (wr.alloc (.cells #[.int .i64 (p1 - p0 - 1)] 3)) ((Blk.new wr 3 #[.int .i64 (p1 - p0 - 1)]).cell 0) (by omega))
            have WA := Lib.hid (HW.out.below ((Below.refl _ wr).alloc (Nat.le_refl _) (.cells #[.int .i64 (p1 - p0 - 1)] 3)))
            simp only [List.length_cons, List.length_nil] at hz2
            have hZ := hHz.out
            have qz : ¬ (9223372036854775807 < H.size + (catS (gaps P k)).size + (catN [p1 - p0 - 1]).size) := by omega
            generalize catS (gaps P k) = CS0 at *
            generalize catN [p1 - p0 - 1] = CN at *
            have HAS : Hid (H ++ catS (gaps P (k + 1)) = H ++ CS0 ++ CN) := Lib.hid (by rw [HGS.out, app_assoc])
            clear o0 a3 hz hz2 hgl hZ z1 HGS
            go_wp2_with fail
            refine NS.out.mono ?_
            rintro e w5 ⟨rfl, b5⟩
            have W5 := Lib.hid (WA.out.below b5)
            clear b5 NS WA z0 z1' f4
            go_wp2_with fail
            go_roundw
            case rel => exact ⟨k + 1, by rw [HAS.out], by go_num, by omega, W5.out⟩
            case measure => simp [intOf]; omega
end Go.Proofs.Ytifdljdnpdefgaa
