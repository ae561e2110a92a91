/-
  THE DOCUMENT's OWN Check.
-/
import Derived.Test.YtgenefamhhncbaaChk3
import Derived.Test.YtgenefamhhncbaaChk4
namespace Go.Proofs.Ytgenefamhhncbaa
open Go.RowKit
theorem chkB_fields {a b c : Int} {k : ByteArray} {L : List Fld} (h : fieldsB L = false) : chkB a b c k L = false := by unfold chkB; rw [h]; simp
set_option maxHeartbeats 2000000 in
set_option maxRecDepth 100000 in
theorem rcheck_any (a b c : Int) (k : ByteArray) (p : Option Addr) (cp : Nat) (L : List Fld) (w : World) (hl : L.length ≤ 100) (hk : k.size ≤ 9223372036854775807) (hx : Flds w p L) (hS : ∀ x ∈ L, x.nm.size ≤ 9223372036854775807 ∧ x.v.s.size ≤ 9223372036854775807) :
    Calls Try.prog 14 #[evV a b c k (.slice p L.length cp)] w fun e w' => e = .returned (.int .i64 (errI (chkB a b c k L))) ∧ Below w.heap.size w w' := by
  obtain ⟨w1, hw1, K1, B1, hs1⟩ : ∃ w1, w1 = w.alloc (.cells #[.int .i64 a, .int .i64 b, .int .i64 c, .string k, .slice p L.length cp] 32) ∧ Blk w1 w.heap.size 32 #[.int .i64 a, .int .i64 b, .int .i64 c, .string k, .slice p L.length cp] ∧ Below w.heap.size w w1 ∧ w1.heap.size = w.heap.size + 1 :=
    ⟨_, rfl, heap_alloc_new w _, (Below.refl w.heap.size w).alloc (Nat.le_refl _) _, by simp⟩
  have W1 := Lib.hid hw1
  have B1h := Lib.hid B1
  have NA := in_any a
  have NB := in_any b
  have NC := in_any c
  have WK := rword_any k hk
  have e0 : w1.cell? ⟨w.heap.size, 0, none⟩ = some (.int .i64 a) := K1.cell 0
  have e1 : w1.cell? ⟨w.heap.size, 1, none⟩ = some (.int .i64 b) := K1.cell 1
  have e2 : w1.cell? ⟨w.heap.size, 2, none⟩ = some (.int .i64 c) := K1.cell 2
  have e3 : w1.cell? ⟨w.heap.size, 3, none⟩ = some (.string k) := K1.cell 3
  have e4 : w1.cell? ⟨w.heap.size, 4, none⟩ = some (.slice p L.length cp) := K1.cell 4
  have K1h := Lib.hid K1
  have X2h := Lib.hid hx
  have HS := Lib.hid hS
  clear hx hS K1 B1 hw1
  obtain ⟨A, hA⟩ : ∃ A, errI (chkB a b c k L) = A := ⟨_, rfl⟩
  have HA := Lib.hid hA
  rw [hA]
  have F1 := Lib.hid (fun (h : chkB a b c k L = false) => show (1 : Int) = A by rw [← HA.out, h]; rfl)
  clear hA
  generalize hn : L.length = n at *
  have HN := Lib.hid hn
  clear hn
  generalize hy : w.heap.size = Y at *
  unfold evV
  cases h0 : numB a
  · have R := Lib.hid (F1.out (by unfold chkB; rw [h0]; rfl))
    rw [h0] at NA
    clear h0
    have NAh := Lib.hid NA
    clear NA NB NC WK
    go_enter Try.func14, Try.ntmps14
    go_wp2_with fail
    rw [← W1.out]
    go_wp2_with fail
    refine (NAh.out _).mono ?_
    rintro e w2 ⟨rfl, rfl⟩
    go_wp2_with fail
    go_ret
    exact ⟨ret_int R.out, B1h.out⟩
  · skip
    cases h1 : numB b
    · have R := Lib.hid (F1.out (by unfold chkB; rw [h0, h1]; rfl))
      rw [h0] at NA
      rw [h1] at NB
      clear h0 h1
      have NAh := Lib.hid NA
      have NBh := Lib.hid NB
      clear NA NB NC WK
      go_enter Try.func14, Try.ntmps14
      go_wp2_with fail
      rw [← W1.out]
      go_wp2_with fail
      refine (NAh.out _).mono ?_
      rintro e w2 ⟨rfl, rfl⟩
      go_wp2_with fail
      refine (NBh.out _).mono ?_
      rintro e w3 ⟨rfl, rfl⟩
      go_wp2_with fail
      go_ret
      exact ⟨ret_int R.out, B1h.out⟩
    · skip
      cases h2 : numB c
      · have R := Lib.hid (F1.out (by unfold chkB; rw [h0, h1, h2]; rfl))
        rw [h0] at NA
        rw [h1] at NB
        rw [h2] at NC
        clear h0 h1 h2
        have NAh := Lib.hid NA
        have NBh := Lib.hid NB
        have NCh := Lib.hid NC
        clear NA NB NC WK
        go_enter Try.func14, Try.ntmps14
        go_wp2_with fail
        rw [← W1.out]
        go_wp2_with fail
        refine (NAh.out _).mono ?_
        rintro e w2 ⟨rfl, rfl⟩
        go_wp2_with fail
        refine (NBh.out _).mono ?_
        rintro e w3 ⟨rfl, rfl⟩
        go_wp2_with fail
        refine (NCh.out _).mono ?_
        rintro e w4 ⟨rfl, rfl⟩
        go_wp2_with fail
        go_ret
        exact ⟨ret_int R.out, B1h.out⟩
      · skip
        cases h3 : wordB k
        · have R := Lib.hid (F1.out (by unfold chkB; rw [h0, h1, h2, h3]; rfl))
          rw [h0] at NA
          rw [h1] at NB
          rw [h2] at NC
          rw [h3] at WK
          clear h0 h1 h2 h3
          have NAh := Lib.hid NA
          have NBh := Lib.hid NB
          have NCh := Lib.hid NC
          have WKh := Lib.hid WK
          clear NA NB NC WK
          go_enter Try.func14, Try.ntmps14
          go_wp2_with fail
          rw [← W1.out]
          go_wp2_with fail
          refine (NAh.out _).mono ?_
          rintro e w2 ⟨rfl, rfl⟩
          go_wp2_with fail
          refine (NBh.out _).mono ?_
          rintro e w3 ⟨rfl, rfl⟩
          go_wp2_with fail
          refine (NCh.out _).mono ?_
          rintro e w4 ⟨rfl, rfl⟩
          go_wp2_with fail
          refine (WKh.out _).mono ?_
          rintro e w5 ⟨rfl, rfl⟩
          go_wp2_with fail
          go_ret
          exact ⟨ret_int R.out, B1h.out⟩
        · have CK := Lib.hid (show chkB a b c k L = fieldsB L by unfold chkB; rw [h0, h1, h2, h3]; rfl)
          rw [h0] at NA
          rw [h1] at NB
          rw [h2] at NC
          rw [h3] at WK
          clear h0 h1 h2 h3
          have NAh := Lib.hid NA
          have NBh := Lib.hid NB
          have NCh := Lib.hid NC
          have WKh := Lib.hid WK
          clear NA NB NC WK
          by_cases h8 : n ≤ 8
          · have h8' : ¬ (8 : Int) < (n : Int) := by omega
            have FB := Lib.hid (show fieldsB L = okTo L n by unfold fieldsB; rw [HN.out, decide_eq_true h8, Bool.true_and])
            go_enter Try.func14, Try.ntmps14
            go_wp2_with fail
            rw [← W1.out]
            go_wp2_with fail
            refine (NAh.out _).mono ?_
            rintro e w2 ⟨rfl, rfl⟩
            go_wp2_with fail
            refine (NBh.out _).mono ?_
            rintro e w3 ⟨rfl, rfl⟩
            go_wp2_with fail
            refine (NCh.out _).mono ?_
            rintro e w4 ⟨rfl, rfl⟩
            go_wp2_with fail
            refine (WKh.out _).mono ?_
            rintro e w5 ⟨rfl, rfl⟩
            go_wp2_with fail
            go_loopw [3] (fun i wq => ∃ j : Nat, i = .int .i64 j ∧ j ≤ n ∧ Hid (okTo L j = true) ∧ Blk wq Y 32 #[.int .i64 a, .int .i64 b, .int .i64 c, .string k, .slice p n cp] ∧ Below Y w wq) (fun i _ => n - (intOf i).toNat)
            case atStart => exact ⟨0, rfl, Nat.zero_le _, Lib.hid rfl, K1h.out, B1h.out⟩
            case round =>
              obtain ⟨j, rfl, hj, hf, hK, hB⟩ := hrel
              have HK := Lib.hid hK
              have HB := Lib.hid hB
              have q4 : wr.cell? ⟨Y, 4, none⟩ = some (.slice p n cp) := hK.cell 4
              clear hK hB e0 e1 e2 e3 e4 NAh NBh NCh WKh
              by_cases hjn : j < n
              · have hjL : j < L.length := by rw [HN.out]; exact hjn
                obtain ⟨g0, o, rfl, hg0, c0, c1, c2, c3, c4⟩ := X2h.out j hjL
                have hgY : g0 < Y := by rw [← hy]; exact hg0
                have hYr : Y < wr.heap.size := HK.out.lt
                rw [← HB.out.cell (p := ⟨g0, _, none⟩) hgY] at c0 c1 c2 c3 c4
                have SZ := Lib.hid (HS.out L[j] (List.getElem_mem hjL))
                have OT := Lib.hid (okTo_succ L j)
                have OF := Lib.hid (fun (h : okAt L j = false) => F1.out (chkB_fields (FB.out.trans (okTo_false hjn h))))
                have E0 : Hid (okAt L j = ((decide (j = 0) || ltS (prevN L j) L[j].nm) && (wordB L[j].nm && mayB L[j].v))) := Lib.hid (by unfold okAt; rw [List.getElem?_eq_getElem hjL])
                have PV : Hid (∀ i, j = i + 1 → ∃ y : Fld, prevN L j = y.nm ∧ wr.cell? ⟨g0, o + i * 5, none⟩ = some (.string y.nm)) := Lib.hid (fun i hi => by
                  subst hi
                  have hiL : i < L.length := by omega
                  obtain ⟨g0', o', he, _, d0, _, _, _, _⟩ := X2h.out i hiL
                  obtain ⟨rfl, rfl⟩ : g0' = g0 ∧ o' = o := by simp only [Option.some.injEq, Addr.mk.injEq, and_true] at he; exact ⟨he.1.symm, he.2.symm⟩
                  rw [← HB.out.cell (p := ⟨g0', _, none⟩) hgY] at d0
                  refine ⟨L[i], ?_, d0⟩
                  unfold prevN
                  rw [Nat.add_sub_cancel, List.getElem?_eq_getElem hiL]; rfl)
                generalize L[j] = x at *
                obtain ⟨xn, xk, xm, xf, xs⟩ := x
                simp only at c0 c1 c2 c3 c4 E0 SZ
                have WA := rword_any xn SZ.out.1
                have VA := may_any ⟨xk, xm, xf, xs⟩ SZ.out.2
                unfold Val.val at VA
                simp only at VA
                cases hw : wordB xn
                · have R := Lib.hid (OF.out (E0.out.trans (by rw [hw]; simp)))
                  rw [hw] at WA
                  have WAh := Lib.hid WA
                  clear hw VA WA
                  go_wp2_with fail
                  refine (WAh.out _).mono ?_
                  rintro e w6 ⟨rfl, rfl⟩
                  go_wp2_with fail
                  go_ret
                  exact ⟨ret_int R.out, hy ▸ HB.out⟩
                · cases hv : mayB ⟨xk, xm, xf, xs⟩
                  · have R := Lib.hid (OF.out (E0.out.trans (by rw [hw, hv]; simp)))
                    rw [hw] at WA
                    rw [hv] at VA
                    have WAh := Lib.hid WA
                    have VAh := Lib.hid VA
                    clear hw hv VA WA
                    go_wp2_with fail
                    refine (WAh.out _).mono ?_
                    rintro e w6 ⟨rfl, rfl⟩
                    go_wp2_with fail
                    refine (VAh.out _).mono ?_
                    rintro e w7 ⟨rfl, b7⟩
                    have B7h : Hid (Below Y w w7) := Lib.hid (HB.out.trans (b7.mono (by omega)))
                    clear b7
                    go_wp2_with fail
                    go_ret
                    exact ⟨ret_int R.out, hy ▸ B7h.out⟩
                  · have E1 := Lib.hid (E0.out.trans (show _ = (decide (j = 0) || ltS (prevN L j) xn) by rw [hw, hv]; simp))
                    rw [hw] at WA
                    rw [hv] at VA
                    have WAh := Lib.hid WA
                    have VAh := Lib.hid VA
                    clear hw hv VA WA E0
                    go_wp2_with fail
                    refine (WAh.out _).mono ?_
                    rintro e w6 ⟨rfl, rfl⟩
                    go_wp2_with fail
                    refine (VAh.out _).mono ?_
                    rintro e w7 ⟨rfl, b7⟩
                    have B7h : Hid (Below Y w w7) := Lib.hid (HB.out.trans (b7.mono (by omega)))
                    have K7 := HK.out.below b7
                    have K7h := Lib.hid K7
                    have q7 : w7.cell? ⟨Y, 4, none⟩ = some (.slice (some ⟨g0, o, none⟩) n cp) := K7.cell 4
                    have c7 : w7.cell? ⟨g0, o + j * 5, none⟩ = some (.string xn) := by rw [b7.cell (p := ⟨g0, _, none⟩) (Nat.lt_trans hgY hYr)]; exact c0
                    have PV7 : Hid (∀ i, j = i + 1 → ∃ y : Fld, prevN L j = y.nm ∧ w7.cell? ⟨g0, o + i * 5, none⟩ = some (.string y.nm)) := Lib.hid (fun i hi => by
                      obtain ⟨y, h1, h2⟩ := PV.out i hi
                      exact ⟨y, h1, by rw [b7.cell (p := ⟨g0, _, none⟩) (Nat.lt_trans hgY hYr)]; exact h2⟩)
                    clear b7 K7 q4 c0 c1 c2 c3 c4 PV WAh VAh HB HK
                    rcases j with _ | i
                    · have N1 : Hid (okTo L (0 + 1) = true) := Lib.hid (by rw [OT.out, hf.out, E1.out]; rfl)
                      rw [show ((0 : Nat) : Int) = 0 from rfl]
                      go_wp2_with fail
                      go_quiet (fail)
                      have K8h : Hid (Blk (w7.drewN nq) Y 32 #[.int .i64 a, .int .i64 b, .int .i64 c, .string k, .slice (some ⟨g0, o, none⟩) n cp]) := Lib.hid K7h.out
                      have B8h : Hid (Below Y w (w7.drewN nq)) := Lib.hid (below_drewN B7h.out nq)
                      generalize w7.drewN nq = w8 at *
                      go_wp2_with fail
                      go_roundw
                      case rel => exact ⟨0 + 1, by go_num, by omega, N1, K8h.out, B8h.out⟩
                      case measure => simp [intOf]; omega
                    · obtain ⟨y, hpv, d7⟩ := PV7.out i rfl
                      rw [hpv, show decide (i + 1 = 0) = false by simp, Bool.false_or] at E1
                      obtain ⟨yn, yk, ym, yf, ys⟩ := y
                      simp only at E1 d7
                      clear PV7 hpv
                      have hin : i < n := by omega
                      have z3 : decide ((0 : Int) < ((i + 1 : Nat) : Int)) = true := decide_eq_true (by omega)
                      have IR := Lib.hid (bl_irr yn.toList xn.toList)
                      have TO := Lib.hid (bl_tot yn.toList xn.toList)
                      have z4 : (0 : Int) < (i : Int) + 1 := by omega
                      have hwp : IntKind.i64.wrap ((i : Int) + 1 - 1) = (i : Int) := by rw [Int.add_sub_cancel]; exact IntWalk.i64_in _ (by omega)
                      have hwq : IntKind.i64.wrap (((i + 1 : Nat) : Int) - 1) = (i : Int) := by rw [show (((i + 1 : Nat) : Int) - 1) = (i : Int) by omega]; exact IntWalk.i64_in _ (by omega)
                      cases hlt : ltS yn xn
                      · have R := Lib.hid (OF.out (E1.out.trans hlt))
                        unfold ltS at hlt
                        cases hg : Op.bytesLess xn.toList yn.toList
                        · have he : (xn.toList == yn.toList) = true := by rw [TO.out hlt hg]; simp
                          go_wp2_with fail
                          go_quiet (fail)
                          have B8h : Hid (Below Y w (w7.drewN nq)) := Lib.hid (below_drewN B7h.out nq)
                          generalize w7.drewN nq = w8 at *
                          go_wp2_with fail
                          go_ret
                          exact ⟨ret_int R.out, hy ▸ B8h.out⟩
                        · cases he : (xn.toList == yn.toList)
                          · go_wp2_with fail
                            go_quiet (fail)
                            have B8h : Hid (Below Y w (w7.drewN nq)) := Lib.hid (below_drewN B7h.out nq)
                            generalize w7.drewN nq = w8 at *
                            go_wp2_with fail
                            go_ret
                            exact ⟨ret_int R.out, hy ▸ B8h.out⟩
                          · go_wp2_with fail
                            go_quiet (fail)
                            have B8h : Hid (Below Y w (w7.drewN nq)) := Lib.hid (below_drewN B7h.out nq)
                            generalize w7.drewN nq = w8 at *
                            go_wp2_with fail
                            go_ret
                            exact ⟨ret_int R.out, hy ▸ B8h.out⟩
                      · have N1 : Hid (okTo L (i + 1 + 1) = true) := Lib.hid (by rw [OT.out, hf.out, E1.out, hlt]; rfl)
                        unfold ltS at hlt
                        have hg := IR.out hlt
                        have he : (xn.toList == yn.toList) = false := by
                          cases he : (xn.toList == yn.toList)
                          · rfl
                          · have e : xn.toList = yn.toList := by simpa using he
                            rw [e] at hg hlt; rw [hg] at hlt; cases hlt
                        go_wp2_with fail
                        go_quiet (fail)
                        have K8h : Hid (Blk (w7.drewN nq) Y 32 #[.int .i64 a, .int .i64 b, .int .i64 c, .string k, .slice (some ⟨g0, o, none⟩) n cp]) := Lib.hid K7h.out
                        have B8h : Hid (Below Y w (w7.drewN nq)) := Lib.hid (below_drewN B7h.out nq)
                        generalize w7.drewN nq = w8 at *
                        go_wp2_with fail
                        go_roundw
                        case rel => exact ⟨i + 1 + 1, by go_num, by omega, N1, K8h.out, B8h.out⟩
                        case measure => simp [intOf]; omega
              · obtain rfl : j = n := by omega
                have R := Lib.hid (show (0 : Int) = A by rw [← HA.out, CK.out, FB.out, hf.out]; rfl)
                go_wp2_with fail
                go_ret
                exact ⟨ret_int R.out, hy ▸ HB.out⟩
          · have h8' : (8 : Int) < (n : Int) := by omega
            have R := Lib.hid (F1.out (chkB_fields (by unfold fieldsB; rw [HN.out, decide_eq_false h8]; rfl)))
            go_enter Try.func14, Try.ntmps14
            go_wp2_with fail
            rw [← W1.out]
            go_wp2_with fail
            refine (NAh.out _).mono ?_
            rintro e w2 ⟨rfl, rfl⟩
            go_wp2_with fail
            refine (NBh.out _).mono ?_
            rintro e w3 ⟨rfl, rfl⟩
            go_wp2_with fail
            refine (NCh.out _).mono ?_
            rintro e w4 ⟨rfl, rfl⟩
            go_wp2_with fail
            refine (WKh.out _).mono ?_
            rintro e w5 ⟨rfl, rfl⟩
            go_wp2_with fail
            go_ret
            exact ⟨ret_int R.out, B1h.out⟩
end Go.Proofs.Ytgenefamhhncbaa
