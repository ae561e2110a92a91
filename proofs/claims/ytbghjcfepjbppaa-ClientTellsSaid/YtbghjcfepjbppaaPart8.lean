/-
  WHAT THE ROWS REST ON, part 8: Chk5 Enc2.
-/
import Derived.Test.YtbghjcfepjbppaaPart7
/-
  THE DOCUMENT's OWN Check.
-/
namespace Go.Proofs.Ytbghjcfepjbppaa
open Go.RowKit
theorem chkB_fields {a b c : Int} {k : ByteArray} {L : List Fld} (h : fieldsB L = false) : chkB a b c k L = false := by unfold chkB; rw [h]; simp
set_option maxHeartbeats 2000000 in
set_option maxRecDepth 100000 in
theorem rcheck_any (a b c : Int) (k : ByteArray) (p : Option Addr) (cp : Nat) (L : List Fld) (w : World) (hl : L.length ≤ 100) (hk : k.size ≤ 9223372036854775807) (hx : Flds w p L) (hS : ∀ x ∈ L, x.nm.size ≤ 9223372036854775807 ∧ x.v.s.size ≤ 9223372036854775807) :
    Calls Try.prog 39 #[evV a b c k (.slice p L.length cp)] w fun e w' => e = .returned (.int .i64 (errI (chkB a b c k L))) ∧ Below w.heap.size w w' := by
  obtain ⟨w1, hw1, K1, B1, hs1⟩ : ∃ w1, w1 = w.alloc (.cells #[.int .i64 a, .int .i64 b, .int .i64 c, .string k, .slice p L.length cp] 42) ∧ Blk w1 w.heap.size 42 #[.int .i64 a, .int .i64 b, .int .i64 c, .string k, .slice p L.length cp] ∧ Below w.heap.size w w1 ∧ w1.heap.size = w.heap.size + 1 :=
    ⟨_, rfl, heap_alloc_new w _, (Below.refl w.heap.size w).alloc (Nat.le_refl _) _, by simp⟩
  have W1 := Lib.hid hw1
  have B1h := Lib.hid B1
  have NA := in_any a
  have NB := in_any b
  have NC := in_any c
  have WK := rword_any k hk
  have e0 : w1.cell? ⟨w.heap.size, 0, none⟩ = some (.int .i64 a) := K1.cell 0
  have e1 : w1.cell? ⟨w.heap.size, 1, none⟩ = some (.int .i64 b) := K1.cell 1
  have e2 : w1.cell? ⟨w.heap.size, 2, none⟩ = some (.int .i64 c) := K1.cell 2
  have e3 : w1.cell? ⟨w.heap.size, 3, none⟩ = some (.string k) := K1.cell 3
  have e4 : w1.cell? ⟨w.heap.size, 4, none⟩ = some (.slice p L.length cp) := K1.cell 4
  have K1h := Lib.hid K1
  have X2h := Lib.hid hx
  have HS := Lib.hid hS
  clear hx hS K1 B1 hw1
  obtain ⟨A, hA⟩ : ∃ A, errI (chkB a b c k L) = A := ⟨_, rfl⟩
  have HA := Lib.hid hA
  rw [hA]
  have F1 := Lib.hid (fun (h : chkB a b c k L = false) => show (1 : Int) = A by rw [← HA.out, h]; rfl)
  clear hA
  generalize hn : L.length = n at *
  have HN := Lib.hid hn
  clear hn
  generalize hy : w.heap.size = Y at *
  unfold evV
  cases h0 : numB a
  · have R := Lib.hid (F1.out (by unfold chkB; rw [h0]; rfl))
    rw [h0] at NA
    clear h0
    have NAh := Lib.hid NA
    clear NA NB NC WK
    go_enter Try.func39, Try.ntmps39
    go_wp2_with fail
    rw [← W1.out]
    go_wp2_with fail
    refine (NAh.out _).mono ?_
    rintro e w2 ⟨rfl, rfl⟩
    go_wp2_with fail
    go_ret
    exact ⟨ret_int R.out, B1h.out⟩
  · skip
    cases h1 : numB b
    · have R := Lib.hid (F1.out (by unfold chkB; rw [h0, h1]; rfl))
      rw [h0] at NA
      rw [h1] at NB
      clear h0 h1
      have NAh := Lib.hid NA
      have NBh := Lib.hid NB
      clear NA NB NC WK
      go_enter Try.func39, Try.ntmps39
      go_wp2_with fail
      rw [← W1.out]
      go_wp2_with fail
      refine (NAh.out _).mono ?_
      rintro e w2 ⟨rfl, rfl⟩
      go_wp2_with fail
      refine (NBh.out _).mono ?_
      rintro e w3 ⟨rfl, rfl⟩
      go_wp2_with fail
      go_ret
      exact ⟨ret_int R.out, B1h.out⟩
    · skip
      cases h2 : numB c
      · have R := Lib.hid (F1.out (by unfold chkB; rw [h0, h1, h2]; rfl))
        rw [h0] at NA
        rw [h1] at NB
        rw [h2] at NC
        clear h0 h1 h2
        have NAh := Lib.hid NA
        have NBh := Lib.hid NB
        have NCh := Lib.hid NC
        clear NA NB NC WK
        go_enter Try.func39, Try.ntmps39
        go_wp2_with fail
        rw [← W1.out]
        go_wp2_with fail
        refine (NAh.out _).mono ?_
        rintro e w2 ⟨rfl, rfl⟩
        go_wp2_with fail
        refine (NBh.out _).mono ?_
        rintro e w3 ⟨rfl, rfl⟩
        go_wp2_with fail
        refine (NCh.out _).mono ?_
        rintro e w4 ⟨rfl, rfl⟩
        go_wp2_with fail
        go_ret
        exact ⟨ret_int R.out, B1h.out⟩
      · skip
        cases h3 : wordB k
        · have R := Lib.hid (F1.out (by unfold chkB; rw [h0, h1, h2, h3]; rfl))
          rw [h0] at NA
          rw [h1] at NB
          rw [h2] at NC
          rw [h3] at WK
          clear h0 h1 h2 h3
          have NAh := Lib.hid NA
          have NBh := Lib.hid NB
          have NCh := Lib.hid NC
          have WKh := Lib.hid WK
          clear NA NB NC WK
          go_enter Try.func39, Try.ntmps39
          go_wp2_with fail
          rw [← W1.out]
          go_wp2_with fail
          refine (NAh.out _).mono ?_
          rintro e w2 ⟨rfl, rfl⟩
          go_wp2_with fail
          refine (NBh.out _).mono ?_
          rintro e w3 ⟨rfl, rfl⟩
          go_wp2_with fail
          refine (NCh.out _).mono ?_
          rintro e w4 ⟨rfl, rfl⟩
          go_wp2_with fail
          refine (WKh.out _).mono ?_
          rintro e w5 ⟨rfl, rfl⟩
          go_wp2_with fail
          go_ret
          exact ⟨ret_int R.out, B1h.out⟩
        · have CK := Lib.hid (show chkB a b c k L = fieldsB L by unfold chkB; rw [h0, h1, h2, h3]; rfl)
          rw [h0] at NA
          rw [h1] at NB
          rw [h2] at NC
          rw [h3] at WK
          clear h0 h1 h2 h3
          have NAh := Lib.hid NA
          have NBh := Lib.hid NB
          have NCh := Lib.hid NC
          have WKh := Lib.hid WK
          clear NA NB NC WK
          by_cases h8 : n ≤ 8
          · have h8' : ¬ (8 : Int) < (n : Int) := by omega
            have FB := Lib.hid (show fieldsB L = okTo L n by unfold fieldsB; rw [HN.out, decide_eq_true h8, Bool.true_and])
            go_enter Try.func39, Try.ntmps39
            go_wp2_with fail
            rw [← W1.out]
            go_wp2_with fail
            refine (NAh.out _).mono ?_
            rintro e w2 ⟨rfl, rfl⟩
            go_wp2_with fail
            refine (NBh.out _).mono ?_
            rintro e w3 ⟨rfl, rfl⟩
            go_wp2_with fail
            refine (NCh.out _).mono ?_
            rintro e w4 ⟨rfl, rfl⟩
            go_wp2_with fail
            refine (WKh.out _).mono ?_
            rintro e w5 ⟨rfl, rfl⟩
            go_wp2_with fail
            go_loopw [3] (fun i wq => ∃ j : Nat, i = .int .i64 j ∧ j ≤ n ∧ Hid (okTo L j = true) ∧ Blk wq Y 42 #[.int .i64 a, .int .i64 b, .int .i64 c, .string k, .slice p n cp] ∧ Below Y w wq) (fun i _ => n - (intOf i).toNat)
            case atStart => exact ⟨0, rfl, Nat.zero_le _, Lib.hid rfl, K1h.out, B1h.out⟩
            case round =>
              obtain ⟨j, rfl, hj, hf, hK, hB⟩ := hrel
              have HK := Lib.hid hK
              have HB := Lib.hid hB
              have q4 : wr.cell? ⟨Y, 4, none⟩ = some (.slice p n cp) := hK.cell 4
              clear hK hB e0 e1 e2 e3 e4 NAh NBh NCh WKh
              by_cases hjn : j < n
              · have hjL : j < L.length := by rw [HN.out]; exact hjn
                obtain ⟨g0, o, rfl, hg0, c0, c1, c2, c3, c4⟩ := X2h.out j hjL
                have hgY : g0 < Y := by rw [← hy]; exact hg0
                have hYr : Y < wr.heap.size := HK.out.lt
                rw [← HB.out.cell (p := ⟨g0, _, none⟩) hgY] at c0 c1 c2 c3 c4
                have SZ := Lib.hid (HS.out L[j] (List.getElem_mem hjL))
                have OT := Lib.hid (okTo_succ L j)
                have OF := Lib.hid (fun (h : okAt L j = false) => F1.out (chkB_fields (FB.out.trans (okTo_false hjn h))))
                have E0 : Hid (okAt L j = ((decide (j = 0) || ltS (prevN L j) L[j].nm) && (wordB L[j].nm && mayB L[j].v))) := Lib.hid (by unfold okAt; rw [List.getElem?_eq_getElem hjL])
                have PV : Hid (∀ i, j = i + 1 → ∃ y : Fld, prevN L j = y.nm ∧ wr.cell? ⟨g0, o + i * 5, none⟩ = some (.string y.nm)) := Lib.hid (fun i hi => by
                  subst hi
                  have hiL : i < L.length := by omega
                  obtain ⟨g0', o', he, _, d0, _, _, _, _⟩ := X2h.out i hiL
                  obtain ⟨rfl, rfl⟩ : g0' = g0 ∧ o' = o := by simp only [Option.some.injEq, Addr.mk.injEq, and_true] at he; exact ⟨he.1.symm, he.2.symm⟩
                  rw [← HB.out.cell (p := ⟨g0', _, none⟩) hgY] at d0
                  refine ⟨L[i], ?_, d0⟩
                  unfold prevN
                  rw [Nat.add_sub_cancel, List.getElem?_eq_getElem hiL]; rfl)
                generalize L[j] = x at *
                obtain ⟨xn, xk, xm, xf, xs⟩ := x
                simp only at c0 c1 c2 c3 c4 E0 SZ
                have WA := rword_any xn SZ.out.1
                have VA := may_any ⟨xk, xm, xf, xs⟩ SZ.out.2
                unfold Val.val at VA
                simp only at VA
                cases hw : wordB xn
                · have R := Lib.hid (OF.out (E0.out.trans (by rw [hw]; simp)))
                  rw [hw] at WA
                  have WAh := Lib.hid WA
                  clear hw VA WA
                  go_wp2_with fail
                  refine (WAh.out _).mono ?_
                  rintro e w6 ⟨rfl, rfl⟩
                  go_wp2_with fail
                  go_ret
                  exact ⟨ret_int R.out, hy ▸ HB.out⟩
                · cases hv : mayB ⟨xk, xm, xf, xs⟩
                  · have R := Lib.hid (OF.out (E0.out.trans (by rw [hw, hv]; simp)))
                    rw [hw] at WA
                    rw [hv] at VA
                    have WAh := Lib.hid WA
                    have VAh := Lib.hid VA
                    clear hw hv VA WA
                    go_wp2_with fail
                    refine (WAh.out _).mono ?_
                    rintro e w6 ⟨rfl, rfl⟩
                    go_wp2_with fail
                    refine (VAh.out _).mono ?_
                    rintro e w7 ⟨rfl, b7⟩
                    have B7h : Hid (Below Y w w7) := Lib.hid (HB.out.trans (b7.mono (by omega)))
                    clear b7
                    go_wp2_with fail
                    go_ret
                    exact ⟨ret_int R.out, hy ▸ B7h.out⟩
                  · have E1 := Lib.hid (E0.out.trans (show _ = (decide (j = 0) || ltS (prevN L j) xn) by rw [hw, hv]; simp))
                    rw [hw] at WA
                    rw [hv] at VA
                    have WAh := Lib.hid WA
                    have VAh := Lib.hid VA
                    clear hw hv VA WA E0
                    go_wp2_with fail
                    refine (WAh.out _).mono ?_
                    rintro e w6 ⟨rfl, rfl⟩
                    go_wp2_with fail
                    refine (VAh.out _).mono ?_
                    rintro e w7 ⟨rfl, b7⟩
                    have B7h : Hid (Below Y w w7) := Lib.hid (HB.out.trans (b7.mono (by omega)))
                    have K7 := HK.out.below b7
                    have K7h := Lib.hid K7
                    have q7 : w7.cell? ⟨Y, 4, none⟩ = some (.slice (some ⟨g0, o, none⟩) n cp) := K7.cell 4
                    have c7 : w7.cell? ⟨g0, o + j * 5, none⟩ = some (.string xn) := by rw [b7.cell (p := ⟨g0, _, none⟩) (Nat.lt_trans hgY hYr)]; exact c0
                    have PV7 : Hid (∀ i, j = i + 1 → ∃ y : Fld, prevN L j = y.nm ∧ w7.cell? ⟨g0, o + i * 5, none⟩ = some (.string y.nm)) := Lib.hid (fun i hi => by
                      obtain ⟨y, h1, h2⟩ := PV.out i hi
                      exact ⟨y, h1, by rw [b7.cell (p := ⟨g0, _, none⟩) (Nat.lt_trans hgY hYr)]; exact h2⟩)
                    clear b7 K7 q4 c0 c1 c2 c3 c4 PV WAh VAh HB HK
                    rcases j with _ | i
                    · have N1 : Hid (okTo L (0 + 1) = true) := Lib.hid (by rw [OT.out, hf.out, E1.out]; rfl)
                      rw [show ((0 : Nat) : Int) = 0 from rfl]
                      go_wp2_with fail
                      go_quiet (fail)
                      have K8h : Hid (Blk (w7.drewN nq) Y 42 #[.int .i64 a, .int .i64 b, .int .i64 c, .string k, .slice (some ⟨g0, o, none⟩) n cp]) := Lib.hid K7h.out
                      have B8h : Hid (Below Y w (w7.drewN nq)) := Lib.hid (below_drewN B7h.out nq)
                      generalize w7.drewN nq = w8 at *
                      go_wp2_with fail
                      go_roundw
                      case rel => exact ⟨0 + 1, by go_num, by omega, N1, K8h.out, B8h.out⟩
                      case measure => simp [intOf]; omega
                    · obtain ⟨y, hpv, d7⟩ := PV7.out i rfl
                      rw [hpv, show decide (i + 1 = 0) = false by simp, Bool.false_or] at E1
                      obtain ⟨yn, yk, ym, yf, ys⟩ := y
                      simp only at E1 d7
                      clear PV7 hpv
                      have hin : i < n := by omega
                      have z3 : decide ((0 : Int) < ((i + 1 : Nat) : Int)) = true := decide_eq_true (by omega)
                      have IR := Lib.hid (bl_irr yn.toList xn.toList)
                      have TO := Lib.hid (bl_tot yn.toList xn.toList)
                      have z4 : (0 : Int) < (i : Int) + 1 := by omega
                      have hwp : IntKind.i64.wrap ((i : Int) + 1 - 1) = (i : Int) := by rw [Int.add_sub_cancel]; exact IntWalk.i64_in _ (by omega)
                      have hwq : IntKind.i64.wrap (((i + 1 : Nat) : Int) - 1) = (i : Int) := by rw [show (((i + 1 : Nat) : Int) - 1) = (i : Int) by omega]; exact IntWalk.i64_in _ (by omega)
                      cases hlt : ltS yn xn
                      · have R := Lib.hid (OF.out (E1.out.trans hlt))
                        unfold ltS at hlt
                        cases hg : Op.bytesLess xn.toList yn.toList
                        · have he : (xn.toList == yn.toList) = true := by rw [TO.out hlt hg]; simp
                          go_wp2_with fail
                          go_quiet (fail)
                          have B8h : Hid (Below Y w (w7.drewN nq)) := Lib.hid (below_drewN B7h.out nq)
                          generalize w7.drewN nq = w8 at *
                          go_wp2_with fail
                          go_ret
                          exact ⟨ret_int R.out, hy ▸ B8h.out⟩
                        · cases he : (xn.toList == yn.toList)
                          · go_wp2_with fail
                            go_quiet (fail)
                            have B8h : Hid (Below Y w (w7.drewN nq)) := Lib.hid (below_drewN B7h.out nq)
                            generalize w7.drewN nq = w8 at *
                            go_wp2_with fail
                            go_ret
                            exact ⟨ret_int R.out, hy ▸ B8h.out⟩
                          · go_wp2_with fail
                            go_quiet (fail)
                            have B8h : Hid (Below Y w (w7.drewN nq)) := Lib.hid (below_drewN B7h.out nq)
                            generalize w7.drewN nq = w8 at *
                            go_wp2_with fail
                            go_ret
                            exact ⟨ret_int R.out, hy ▸ B8h.out⟩
                      · have N1 : Hid (okTo L (i + 1 + 1) = true) := Lib.hid (by rw [OT.out, hf.out, E1.out, hlt]; rfl)
                        unfold ltS at hlt
                        have hg := IR.out hlt
                        have he : (xn.toList == yn.toList) = false := by
                          cases he : (xn.toList == yn.toList)
                          · rfl
                          · have e : xn.toList = yn.toList := by simpa using he
                            rw [e] at hg hlt; rw [hg] at hlt; cases hlt
                        go_wp2_with fail
                        go_quiet (fail)
                        have K8h : Hid (Blk (w7.drewN nq) Y 42 #[.int .i64 a, .int .i64 b, .int .i64 c, .string k, .slice (some ⟨g0, o, none⟩) n cp]) := Lib.hid K7h.out
                        have B8h : Hid (Below Y w (w7.drewN nq)) := Lib.hid (below_drewN B7h.out nq)
                        generalize w7.drewN nq = w8 at *
                        go_wp2_with fail
                        go_roundw
                        case rel => exact ⟨i + 1 + 1, by go_num, by omega, N1, K8h.out, B8h.out⟩
                        case measure => simp [intOf]; omega
              · obtain rfl : j = n := by omega
                have R := Lib.hid (show (0 : Int) = A by rw [← HA.out, CK.out, FB.out, hf.out]; rfl)
                go_wp2_with fail
                go_ret
                exact ⟨ret_int R.out, hy ▸ HB.out⟩
          · have h8' : (8 : Int) < (n : Int) := by omega
            have R := Lib.hid (F1.out (chkB_fields (by unfold fieldsB; rw [HN.out, decide_eq_false h8]; rfl)))
            go_enter Try.func39, Try.ntmps39
            go_wp2_with fail
            rw [← W1.out]
            go_wp2_with fail
            refine (NAh.out _).mono ?_
            rintro e w2 ⟨rfl, rfl⟩
            go_wp2_with fail
            refine (NBh.out _).mono ?_
            rintro e w3 ⟨rfl, rfl⟩
            go_wp2_with fail
            refine (NCh.out _).mono ?_
            rintro e w4 ⟨rfl, rfl⟩
            go_wp2_with fail
            refine (WKh.out _).mono ?_
            rintro e w5 ⟨rfl, rfl⟩
            go_wp2_with fail
            go_ret
            exact ⟨ret_int R.out, B1h.out⟩
end Go.Proofs.Ytbghjcfepjbppaa
/-
  THE TEXT OF AN EVENT, WRITTEN: the document's own Encode.
-/
namespace Go.Proofs.Ytbghjcfepjbppaa
open Go.RowKit
set_option maxHeartbeats 2000000 in
set_option maxRecDepth 100000 in
theorem rencode_any (a b c : Int) (k : ByteArray) (p : Option Addr) (cp : Nat) (L : List Fld) (w : World) (h100 : L.length ≤ 100) (hk : k.size ≤ 9223372036854775807) (hx : Flds w p L) (hS : ∀ x ∈ L, x.nm.size ≤ 9223372036854775807 ∧ x.v.s.size ≤ 281474976710656) (hW : ∀ x ∈ L, x.v.Wf) :
    Calls Try.prog 92 #[evV a b c k (.slice p L.length cp)] w fun e w' => e = .returned (.tuple #[.string (if chkB a b c k L then evS a b c k L else ⟨#[]⟩), .int .i64 (errI (chkB a b c k L))]) ∧ Below w.heap.size w w' := by
  obtain ⟨w1, hw1, K1, B1⟩ : ∃ w1, w1 = w.alloc (.cells #[.int .i64 a, .int .i64 b, .int .i64 c, .string k, .slice p L.length cp] 42) ∧ Blk w1 w.heap.size 42 #[.int .i64 a, .int .i64 b, .int .i64 c, .string k, .slice p L.length cp] ∧ Below w.heap.size w w1 :=
    ⟨_, rfl, heap_alloc_new w _, (Below.refl _ w).alloc (Nat.le_refl _) _⟩
  have CK := rcheck_any a b c k p cp L w1 h100 hk (hx.below B1) (fun x hx => by have := hS x hx; omega)
  cases hq : chkB a b c k L
  · rw [hq] at CK
    have CKh := Lib.hid CK
    have W1 := Lib.hid hw1
    have B1h := Lib.hid B1
    have e0 : w1.cell? ⟨w.heap.size, 0, none⟩ = some (.int .i64 a) := K1.cell 0
    have e1 : w1.cell? ⟨w.heap.size, 1, none⟩ = some (.int .i64 b) := K1.cell 1
    have e2 : w1.cell? ⟨w.heap.size, 2, none⟩ = some (.int .i64 c) := K1.cell 2
    have e3 : w1.cell? ⟨w.heap.size, 3, none⟩ = some (.string k) := K1.cell 3
    have e4 : w1.cell? ⟨w.heap.size, 4, none⟩ = some (.slice p L.length cp) := K1.cell 4
    clear CK hq hw1 B1 K1 hx hS hW
    generalize L.length = n at *
    generalize hy : w.heap.size = Y at *
    unfold evV at CKh ⊢
    show Calls _ _ _ _ fun e w' => e = .returned (.tuple #[.string ⟨#[]⟩, .int .i64 1]) ∧ _
    have CKh : Hid (Calls Try.prog 39 #[.agg #[.int .i64 a, .int .i64 b, .int .i64 c, .string k, .slice p n cp]] w1 fun e w' => e = .returned (.int .i64 1) ∧ Below w1.heap.size w1 w') := CKh
    go_enter Try.func92, Try.ntmps92
    go_wp2_with fail
    rw [← W1.out]
    go_wp2_with fail
    refine CKh.out.mono ?_
    rintro e w2 ⟨rfl, b2⟩
    have B2h := Lib.hid (B1h.out.trans (b2.mono (by have := B1h.out.size; omega)))
    clear b2
    go_wp2_with fail
    go_ret2
    exact ⟨rfl, B2h.out⟩
  · rw [hq] at CK
    obtain ⟨⟨a0, a1⟩, ⟨b0, b1⟩, ⟨c0, c1⟩, hk16, hl8, hf⟩ := chk_facts hq
    have SH := headS_size a b c (L.length : Int) hk16
    have SF : ∀ j, (fldsS (L.take j)).size ≤ 107 * 8 := fun j => by
      have := fldsS_size (l := L.take j) (fun x hx => by
        obtain ⟨i, hi, rfl⟩ := List.mem_iff_getElem.1 (List.mem_of_mem_take hx)
        exact fldS_size (hf i hi).1 (hf i hi).2.2.1)
      have h2 : (L.take j).length ≤ 8 := by rw [List.length_take]; omega
      omega
    have XX := Lib.hid hx
    have HF : Hid (∀ x ∈ L, x.nm.size ≤ 16 ∧ isK x.v = true ∧ (whatS x.v).size ≤ 73 ∧ (x.v.k ≠ 3 ∨ x.v.s.size ≤ 64)) := Lib.hid (fun x hx => by
      obtain ⟨i, hi, rfl⟩ := List.mem_iff_getElem.1 hx
      exact hf i hi)
    have HW := Lib.hid hW
    have HSz := Lib.hid hS
    have SFh := Lib.hid SF
    have zA := Bt.numS_size a
    have zB := Bt.numS_size b
    have zC := Bt.numS_size c
    have zK := textS_size k
    have NA := Lib.hid (fun w => Bt.rnum_any a a0 (by omega) w)
    have NB := Lib.hid (fun w => Bt.rnum_any b b0 (by omega) w)
    have NC := Lib.hid (fun w => Bt.rnum_any c c0 (by omega) w)
    have NK := Lib.hid (fun w => Bt.rtext_any k (by omega) w)
    have NL := Lib.hid (fun w => Bt.rnum_any (L.length : Int) (by omega) (by omega) w)
    have zL := Bt.numS_size (L.length : Int)
    have HE : Hid (∀ A B C K N : ByteArray, A = Bt.numS a → B = Bt.numS b → C = Bt.numS c → K = Bt.textS k → N = Bt.numS (L.length : Int) → A ++ B ++ C ++ K ++ N = headS a b c k (L.length : Int)) := Lib.hid (by
      rintro A B C K N rfl rfl rfl rfl rfl
      unfold headS
      rw [ba_assoc, ba_assoc, ba_assoc])
    have RE : Hid (evS a b c k L = headS a b c k (L.length : Int) ++ fldsS (L.take L.length)) := Lib.hid (by rw [List.take_of_length_le (Nat.le_refl _)]; rfl)
    have W1 := Lib.hid hw1
    have B1h := Lib.hid B1
    have K1h := Lib.hid K1
    have e0 : w1.cell? ⟨w.heap.size, 0, none⟩ = some (.int .i64 a) := K1.cell 0
    have e1 : w1.cell? ⟨w.heap.size, 1, none⟩ = some (.int .i64 b) := K1.cell 1
    have e2 : w1.cell? ⟨w.heap.size, 2, none⟩ = some (.int .i64 c) := K1.cell 2
    have e3 : w1.cell? ⟨w.heap.size, 3, none⟩ = some (.string k) := K1.cell 3
    have e4 : w1.cell? ⟨w.heap.size, 4, none⟩ = some (.slice p L.length cp) := K1.cell 4
    have CKh := Lib.hid CK
    clear CK hq hw1 B1 K1 hx hS hW hf SF
    unfold evV at CKh ⊢
    show Calls _ _ _ _ fun e w' => e = .returned (.tuple #[.string (evS a b c k L), .int .i64 0]) ∧ _
    have CKh : Hid (Calls Try.prog 39 #[.agg #[.int .i64 a, .int .i64 b, .int .i64 c, .string k, .slice p L.length cp]] w1 fun e w' => e = .returned (.int .i64 0) ∧ Below w1.heap.size w1 w') := CKh
    have zk : k.size ≤ 16 := hk16
    obtain ⟨A, hA⟩ : ∃ A, Bt.numS a = A := ⟨_, rfl⟩
    obtain ⟨B, hB⟩ : ∃ A, Bt.numS b = A := ⟨_, rfl⟩
    obtain ⟨C, hC⟩ : ∃ A, Bt.numS c = A := ⟨_, rfl⟩
    obtain ⟨K, hK⟩ : ∃ A, Bt.textS k = A := ⟨_, rfl⟩
    obtain ⟨N, hN⟩ : ∃ A, Bt.numS (L.length : Int) = A := ⟨_, rfl⟩
    have EH := Lib.hid (HE.out A B C K N hA.symm hB.symm hC.symm hK.symm hN.symm)
    rw [hA] at NA zA
    rw [hB] at NB zB
    rw [hC] at NC zC
    rw [hK] at NK zK
    rw [hN] at NL zL
    clear hA hB hC hK hN HE
    generalize hH : headS a b c k (L.length : Int) = H at *
    generalize hE : evS a b c k L = E at *
    clear hH hE
    generalize hn : L.length = n at *
    have HN := Lib.hid hn
    clear hn
    generalize hy : w.heap.size = Y at *
    go_enter Try.func92, Try.ntmps92
    go_wp2_with fail
    rw [← W1.out]
    go_wp2_with fail
    refine CKh.out.mono ?_
    rintro e w2 ⟨rfl, b2⟩
    have K2 := K1h.out.below b2
    have K2h := Lib.hid K2
    have B2h := Lib.hid (B1h.out.trans (b2.mono (by have := B1h.out.size; omega)))
    clear b2 e0 e1 e2 e3 e4
    have d0 : w2.cell? ⟨Y, 0, none⟩ = some (.int .i64 a) := K2.cell 0
    have d1 : w2.cell? ⟨Y, 1, none⟩ = some (.int .i64 b) := K2.cell 1
    have d2 : w2.cell? ⟨Y, 2, none⟩ = some (.int .i64 c) := K2.cell 2
    have d3 : w2.cell? ⟨Y, 3, none⟩ = some (.string k) := K2.cell 3
    have d4 : w2.cell? ⟨Y, 4, none⟩ = some (.slice p n cp) := K2.cell 4
    clear K2
    go_wp2_with fail
    have x0 := fun d os => cell_regrown d0 d os
    have x1 := fun d os => cell_regrown d1 d os
    have x2 := fun d os => cell_regrown d2 d os
    have x3 := fun d os => cell_regrown d3 d os
    have x4 := fun d os => cell_regrown d4 d os
    have C1 := Lib.hid (fun d os => Calls.regrown_of (d := d) (os := os) (NA.out (Go.Sort.grow (redrawn w2 d) os)))
    have C2 := Lib.hid (fun d os => Calls.regrown_of (d := d) (os := os) (NB.out (Go.Sort.grow (redrawn w2 d) os)))
    have C3 := Lib.hid (fun d os => Calls.regrown_of (d := d) (os := os) (NC.out (Go.Sort.grow (redrawn w2 d) os)))
    have C4 := Lib.hid (fun d os => Calls.regrown_of (d := d) (os := os) (NK.out (Go.Sort.grow (redrawn w2 d) os)))
    have C5 := Lib.hid (fun d os => Calls.regrown_of (d := d) (os := os) (NL.out (Go.Sort.grow (redrawn w2 d) os)))
    have q1 : ¬ (9223372036854775807 < A.size + B.size) := by omega
    have q2 : ¬ (9223372036854775807 < A.size + B.size + C.size) := by omega
    have q3 : ¬ (9223372036854775807 < A.size + B.size + C.size + K.size) := by omega
    have q4 : ¬ (9223372036854775807 < A.size + B.size + C.size + K.size + N.size) := by omega
    have u1 : IntKind.u64.wrap a = a := IntWalk.u64_in _ (by omega)
    have u2 : IntKind.u64.wrap b = b := IntWalk.u64_in _ (by omega)
    have u3 : IntKind.u64.wrap c = c := IntWalk.u64_in _ (by omega)
    have u4 : IntKind.u64.wrap (n : Int) = (n : Int) := IntWalk.u64_in _ (by omega)
    refine wp_region_quiet_below mixedE (by kernel_rfl) ?_
    repeat (quiet_step (first | (with_reducible exact C1.out _ _) | (with_reducible exact C2.out _ _) | (with_reducible exact C3.out _ _) | (with_reducible exact C4.out _ _) | (with_reducible exact C5.out _ _)))
    refine wpQuiet_nil ?_
    intro _ hw'
    obtain ⟨⟨dq, osq⟩, hw''⟩ := hw'
    subst hw''
    have b3 := below_regrown w2 dq osq
    have K3 := K2h.out.below b3
    have B3h := Lib.hid (B2h.out.trans (b3.mono (by have := B2h.out.size; omega)))
    clear x0 x1 x2 x3 x4 d0 d1 d2 d3 d4 C1 C2 C3 C4 C5 b3
    generalize Go.Sort.grow (redrawn w2 dq) osq = w3 at *
    have K3h := Lib.hid K3
    clear K3 u1 u2 u3 u4 q1 q2 q3 NA NB NC NK NL
    go_wp2_with fail
    go_outline
    rw [EH.out]
    clear q4 zA zB zC zK zL EH
    go_loopw [5, 4] (fun i s wq => ∃ (j : Nat) (S : ByteArray), i = .int .i64 j ∧ s = .string S ∧ j ≤ n ∧ Hid (S = H ++ fldsS (L.take j)) ∧ Blk wq Y 42 #[.int .i64 a, .int .i64 b, .int .i64 c, .string k, .slice p n cp] ∧ Below Y w wq) (fun i _ _ => n - (intOf i).toNat)
    case atStart => exact ⟨0, H, rfl, rfl, Nat.zero_le _, Lib.hid (ba_nil H).symm, K3h.out, B3h.out⟩
    case round =>
      obtain ⟨j, S, rfl, rfl, hj, hS, hK, hB⟩ := hrel
      have HB := Lib.hid hB
      have HK := Lib.hid hK
      have k4 : wr.cell? ⟨Y, 4, none⟩ = some (.slice p n cp) := hK.cell 4
      clear hB hK
      by_cases hjn : j < n
      · have hjL : j < L.length := by rw [HN.out]; exact hjn
        obtain ⟨g0, o, rfl, hg0, f0, f1, f2, f3, f4⟩ := XX.out j hjL
        have hgY : g0 < Y := by rw [← hy]; exact hg0
        rw [← HB.out.cell (p := ⟨g0, _, none⟩) hgY] at f0 f1 f2 f3 f4
        have FT := Lib.hid (fldsS_take hjL)
        have FS : S.size ≤ 1000 := by
          rw [hS.out, ba_size]
          have := SFh.out j
          omega
        obtain ⟨m1, m2, m3, m4⟩ := HF.out L[j] (List.getElem_mem hjL)
        have WF := HW.out L[j] (List.getElem_mem hjL)
        have SZ := HSz.out L[j] (List.getElem_mem hjL)
        have ek := isK_le' m2
        have TX := Lib.hid (fun W => Bt.rtext_any L[j].nm (by omega) W)
        have NX := Lib.hid (fun W => Bt.rnum_any L[j].v.k (by omega) (by omega) W)
        have WI := Lib.hid (fun W => Bt.rint_any L[j].v.n WF.n0 WF.n1 W)
        have WR := Lib.hid (fun W => Bt.rreal_any L[j].v.f WF.f W)
        have WX := Lib.hid (fun W => Bt.rtext_any L[j].v.s (by omega) W)
        have y1 := textS_size L[j].nm
        have y2 := Bt.numS_size L[j].v.k
        have NS : Hid (∀ T M Q : ByteArray, T = Bt.textS L[j].nm → M = Bt.numS L[j].v.k → Q = whatS L[j].v → S ++ T ++ M ++ Q = H ++ fldsS (L.take (j + 1))) := Lib.hid (by
          rintro T M Q rfl rfl rfl
          rw [FT.out, hS.out, ba_assoc, ba_assoc, ba_assoc H]
          rfl)
        obtain ⟨T, hT⟩ : ∃ A, Bt.textS L[j].nm = A := ⟨_, rfl⟩
        obtain ⟨M, hM⟩ : ∃ A, Bt.numS L[j].v.k = A := ⟨_, rfl⟩
        obtain ⟨Q, hQ⟩ : ∃ A, whatS L[j].v = A := ⟨_, rfl⟩
        have NR := Lib.hid (NS.out T M Q hT.symm hM.symm hQ.symm)
        have HQ := Lib.hid hQ
        rw [hT] at TX y1
        rw [hM] at NX y2
        rw [hQ] at m3
        clear NS hT hM hQ FT WF SZ
        generalize L[j] = x at *
        obtain ⟨xn, xk, xm, xf, xs⟩ := x
        unfold whatS at HQ
        simp only at f0 f1 f2 f3 f4 m1 m2 m3 m4 ek WI WR WX TX NX HQ
        obtain ⟨w5, hw5, N5, B5, K5⟩ : ∃ w5, w5 = wr.alloc (.cells #[.int .i64 xk, .int .i64 xm, .float .f64 xf, .string xs] 106) ∧ Blk w5 wr.heap.size 106 #[.int .i64 xk, .int .i64 xm, .float .f64 xf, .string xs] ∧ Below wr.heap.size wr w5 ∧ Blk w5 Y 42 #[.int .i64 a, .int .i64 b, .int .i64 c, .string k, .slice (some ⟨g0, o, none⟩) n cp] :=
          ⟨_, rfl, heap_alloc_new wr _, (Below.refl _ wr).alloc (Nat.le_refl _) _, HK.out.below ((Below.refl _ wr).alloc (Nat.le_refl _) _)⟩
        have W5 := Lib.hid hw5
        have B5h : Hid (Below Y w w5) := Lib.hid (HB.out.trans (B5.mono (by have := HB.out.size; omega)))
        have N5h := Lib.hid N5
        have K5h := Lib.hid K5
        have n0 : w5.cell? ⟨wr.heap.size, 0, none⟩ = some (.int .i64 xk) := N5.cell 0
        have n5 : w5.cell? ⟨Y, 4, none⟩ = some (.slice (some ⟨g0, o, none⟩) n cp) := K5.cell 4
        have gn : w5.cell? ⟨g0, o + j * 5, none⟩ = some (.string xn) := by rw [B5.cell (p := ⟨g0, _, none⟩) (World.block_lt_of_cell? _ _ f0)]; exact f0
        clear B5 N5 K5
        go_wp2_with fail
        rw [← W5.out]
        clear hw5
        clear f0 f1 f2 f3 f4 k4
        have x0 := fun d os => cell_regrown n0 d os
        have x1 := fun d os => cell_regrown n5 d os
        have x2 := fun d os => cell_regrown gn d os
        have C1 := Lib.hid (fun d os => Calls.regrown_of (d := d) (os := os) (TX.out (Go.Sort.grow (redrawn w5 d) os)))
        have C2 := Lib.hid (fun d os => Calls.regrown_of (d := d) (os := os) (NX.out (Go.Sort.grow (redrawn w5 d) os)))
        have u1 : IntKind.u64.wrap xk = xk := IntWalk.u64_in _ (by omega)
        have q1 : ¬ (9223372036854775807 < S.size + T.size) := by omega
        have q2 : ¬ (9223372036854775807 < S.size + T.size + M.size) := by omega
        refine wp_region_quiet_below mixedE (by kernel_rfl) ?_
        repeat (quiet_step (first | (with_reducible exact C1.out _ _) | (with_reducible exact C2.out _ _)))
        refine wpQuiet_nil ?_
        intro _ hw'
        obtain ⟨⟨dq, osq⟩, hw''⟩ := hw'
        subst hw''
        have b6 := below_regrown w5 dq osq
        have B6h := Lib.hid (B5h.out.trans (b6.mono (by have := B5h.out.size; omega)))
        have N6 := N5h.out.below b6
        have K6 := K5h.out.below b6
        clear b6 x0 x1 x2 n0 n5 gn C1 C2 u1 q1 q2
        generalize Go.Sort.grow (redrawn w5 dq) osq = w6 at *
        have n0 : w6.cell? ⟨wr.heap.size, 0, none⟩ = some (.int .i64 xk) := N6.cell 0
        have n1 : w6.cell? ⟨wr.heap.size, 1, none⟩ = some (.int .i64 xm) := N6.cell 1
        have n2 : w6.cell? ⟨wr.heap.size, 2, none⟩ = some (.float .f64 xf) := N6.cell 2
        have n3 : w6.cell? ⟨wr.heap.size, 3, none⟩ = some (.string xs) := N6.cell 3
        have K6h := Lib.hid K6
        clear N6 K6
        have q3 : ¬ (9223372036854775807 < S.size + T.size + M.size + Q.size) := by omega
        rcases ek with rfl | rfl | rfl
        · rw [if_pos rfl] at HQ
          rw [HQ.out] at WI
          go_wp2_with fail
          refine (WI.out _).mono ?_
          rintro e w7 ⟨rfl, b7⟩
          have K7h := Lib.hid (K6h.out.below b7)
          have B7h := Lib.hid (B6h.out.trans (b7.mono (by have := B6h.out.size; omega)))
          clear b7
          go_wp2_with fail
          go_roundw
          case rel => exact ⟨j + 1, _, by go_num, rfl, by omega, NR, K7h.out, B7h.out⟩
          case measure => simp [intOf]; omega
        · rw [if_neg (by decide), if_pos rfl] at HQ
          rw [HQ.out] at WR
          go_wp2_with fail
          refine (WR.out _).mono ?_
          rintro e w7 ⟨rfl, b7⟩
          have K7h := Lib.hid (K6h.out.below b7)
          have B7h := Lib.hid (B6h.out.trans (b7.mono (by have := B6h.out.size; omega)))
          clear b7
          go_wp2_with fail
          go_roundw
          case rel => exact ⟨j + 1, _, by go_num, rfl, by omega, NR, K7h.out, B7h.out⟩
          case measure => simp [intOf]; omega
        · rw [if_neg (by decide), if_neg (by decide)] at HQ
          rw [HQ.out] at WX
          go_wp2_with fail
          refine (WX.out _).mono ?_
          rintro e w7 ⟨rfl, b7⟩
          have K7h := Lib.hid (K6h.out.below b7)
          have B7h := Lib.hid (B6h.out.trans (b7.mono (by have := B6h.out.size; omega)))
          clear b7
          go_wp2_with fail
          go_roundw
          case rel => exact ⟨j + 1, _, by go_num, rfl, by omega, NR, K7h.out, B7h.out⟩
          case measure => simp [intOf]; omega
      · obtain rfl : j = n := by omega
        go_wp2_with fail
        go_ret2
        exact ⟨ret_enc (hS.out.trans RE.out.symm), HB.out⟩
end Go.Proofs.Ytbghjcfepjbppaa
