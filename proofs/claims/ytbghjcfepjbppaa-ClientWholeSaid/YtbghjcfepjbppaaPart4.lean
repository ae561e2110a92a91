/-
  WHAT THE ROWS REST ON, part 4: Enc1 Smw Smv Tas Awk Rd0 Clb Brs Rdm.
-/
import Derived.Lib.QuietBelow
import Derived.Deep.QuietTactic
import Derived.BigQuiet
import Derived.Test.YtbghjcfepjbppaaPart3
/-
  THE TEXT OF AN EVENT, WRITTEN: event.Encode.
-/
namespace Go.Proofs.Ytbghjcfepjbppaa
open Go.RowKit
theorem mixedE : Try.prog.follows .mixedOrders = true := by kernel_rfl
theorem isK_le' {v : Val} (h : isK v = true) : v.k = 1 ∨ v.k = 2 ∨ v.k = 3 := by
  unfold isK at h
  simp only [Bool.or_eq_true, decide_eq_true_eq] at h
  omega
theorem ret_enc {s t : ByteArray} {n : Int} (h : s = t) : Ending.returned (.tuple #[.string s, .int .i64 n]) = .returned (.tuple #[.string t, .int .i64 n]) := by rw [h]
set_option maxHeartbeats 2000000 in
set_option maxRecDepth 100000 in
theorem encode_any (a b c : Int) (k : ByteArray) (p : Option Addr) (cp : Nat) (L : List Fld) (w : World) (h100 : L.length ≤ 100) (hk : k.size ≤ 9223372036854775807) (hx : Flds w p L) (hS : ∀ x ∈ L, x.nm.size ≤ 9223372036854775807 ∧ x.v.s.size ≤ 281474976710656) (hW : ∀ x ∈ L, x.v.Wf) :
    Calls Try.prog 86 #[evV a b c k (.slice p L.length cp)] w fun e w' => e = .returned (.tuple #[.string (if chkB a b c k L then evS a b c k L else ⟨#[]⟩), .int .i64 (errI (chkB a b c k L))]) ∧ Below w.heap.size w w' := by
  obtain ⟨w1, hw1, K1, B1⟩ : ∃ w1, w1 = w.alloc (.cells #[.int .i64 a, .int .i64 b, .int .i64 c, .string k, .slice p L.length cp] 31) ∧ Blk w1 w.heap.size 31 #[.int .i64 a, .int .i64 b, .int .i64 c, .string k, .slice p L.length cp] ∧ Below w.heap.size w w1 :=
    ⟨_, rfl, heap_alloc_new w _, (Below.refl _ w).alloc (Nat.le_refl _) _⟩
  have CK := check_any a b c k p cp L w1 h100 hk (hx.below B1) (fun x hx => by have := hS x hx; omega)
  cases hq : chkB a b c k L
  · rw [hq] at CK
    have CKh := Lib.hid CK
    have W1 := Lib.hid hw1
    have B1h := Lib.hid B1
    have e0 : w1.cell? ⟨w.heap.size, 0, none⟩ = some (.int .i64 a) := K1.cell 0
    have e1 : w1.cell? ⟨w.heap.size, 1, none⟩ = some (.int .i64 b) := K1.cell 1
    have e2 : w1.cell? ⟨w.heap.size, 2, none⟩ = some (.int .i64 c) := K1.cell 2
    have e3 : w1.cell? ⟨w.heap.size, 3, none⟩ = some (.string k) := K1.cell 3
    have e4 : w1.cell? ⟨w.heap.size, 4, none⟩ = some (.slice p L.length cp) := K1.cell 4
    clear CK hq hw1 B1 K1 hx hS hW
    generalize L.length = n at *
    generalize hy : w.heap.size = Y at *
    unfold evV at CKh ⊢
    show Calls _ _ _ _ fun e w' => e = .returned (.tuple #[.string ⟨#[]⟩, .int .i64 1]) ∧ _
    have CKh : Hid (Calls Try.prog 41 #[.agg #[.int .i64 a, .int .i64 b, .int .i64 c, .string k, .slice p n cp]] w1 fun e w' => e = .returned (.int .i64 1) ∧ Below w1.heap.size w1 w') := CKh
    go_enter Try.func86, Try.ntmps86
    go_wp2_with fail
    rw [← W1.out]
    go_wp2_with fail
    refine CKh.out.mono ?_
    rintro e w2 ⟨rfl, b2⟩
    have B2h := Lib.hid (B1h.out.trans (b2.mono (by have := B1h.out.size; omega)))
    clear b2
    go_wp2_with fail
    go_ret2
    exact ⟨rfl, B2h.out⟩
  · rw [hq] at CK
    obtain ⟨⟨a0, a1⟩, ⟨b0, b1⟩, ⟨c0, c1⟩, hk16, hl8, hf⟩ := chk_facts hq
    have SH := headS_size a b c (L.length : Int) hk16
    have SF : ∀ j, (fldsS (L.take j)).size ≤ 107 * 8 := fun j => by
      have := fldsS_size (l := L.take j) (fun x hx => by
        obtain ⟨i, hi, rfl⟩ := List.mem_iff_getElem.1 (List.mem_of_mem_take hx)
        exact fldS_size (hf i hi).1 (hf i hi).2.2.1)
      have h2 : (L.take j).length ≤ 8 := by rw [List.length_take]; omega
      omega
    have XX := Lib.hid hx
    have HF : Hid (∀ x ∈ L, x.nm.size ≤ 16 ∧ isK x.v = true ∧ (whatS x.v).size ≤ 73 ∧ (x.v.k ≠ 3 ∨ x.v.s.size ≤ 64)) := Lib.hid (fun x hx => by
      obtain ⟨i, hi, rfl⟩ := List.mem_iff_getElem.1 hx
      exact hf i hi)
    have HW := Lib.hid hW
    have HSz := Lib.hid hS
    have SFh := Lib.hid SF
    have zA := Bt.numS_size a
    have zB := Bt.numS_size b
    have zC := Bt.numS_size c
    have zK := textS_size k
    have NA := Lib.hid (fun w => Bt.num_any a a0 (by omega) w)
    have NB := Lib.hid (fun w => Bt.num_any b b0 (by omega) w)
    have NC := Lib.hid (fun w => Bt.num_any c c0 (by omega) w)
    have NK := Lib.hid (fun w => Bt.text_any k (by omega) w)
    have NL := Lib.hid (fun w => Bt.num_any (L.length : Int) (by omega) (by omega) w)
    have zL := Bt.numS_size (L.length : Int)
    have HE : Hid (∀ A B C K N : ByteArray, A = Bt.numS a → B = Bt.numS b → C = Bt.numS c → K = Bt.textS k → N = Bt.numS (L.length : Int) → A ++ B ++ C ++ K ++ N = headS a b c k (L.length : Int)) := Lib.hid (by
      rintro A B C K N rfl rfl rfl rfl rfl
      unfold headS
      rw [ba_assoc, ba_assoc, ba_assoc])
    have RE : Hid (evS a b c k L = headS a b c k (L.length : Int) ++ fldsS (L.take L.length)) := Lib.hid (by rw [List.take_of_length_le (Nat.le_refl _)]; rfl)
    have W1 := Lib.hid hw1
    have B1h := Lib.hid B1
    have K1h := Lib.hid K1
    have e0 : w1.cell? ⟨w.heap.size, 0, none⟩ = some (.int .i64 a) := K1.cell 0
    have e1 : w1.cell? ⟨w.heap.size, 1, none⟩ = some (.int .i64 b) := K1.cell 1
    have e2 : w1.cell? ⟨w.heap.size, 2, none⟩ = some (.int .i64 c) := K1.cell 2
    have e3 : w1.cell? ⟨w.heap.size, 3, none⟩ = some (.string k) := K1.cell 3
    have e4 : w1.cell? ⟨w.heap.size, 4, none⟩ = some (.slice p L.length cp) := K1.cell 4
    have CKh := Lib.hid CK
    clear CK hq hw1 B1 K1 hx hS hW hf SF
    unfold evV at CKh ⊢
    show Calls _ _ _ _ fun e w' => e = .returned (.tuple #[.string (evS a b c k L), .int .i64 0]) ∧ _
    have CKh : Hid (Calls Try.prog 41 #[.agg #[.int .i64 a, .int .i64 b, .int .i64 c, .string k, .slice p L.length cp]] w1 fun e w' => e = .returned (.int .i64 0) ∧ Below w1.heap.size w1 w') := CKh
    have zk : k.size ≤ 16 := hk16
    obtain ⟨A, hA⟩ : ∃ A, Bt.numS a = A := ⟨_, rfl⟩
    obtain ⟨B, hB⟩ : ∃ A, Bt.numS b = A := ⟨_, rfl⟩
    obtain ⟨C, hC⟩ : ∃ A, Bt.numS c = A := ⟨_, rfl⟩
    obtain ⟨K, hK⟩ : ∃ A, Bt.textS k = A := ⟨_, rfl⟩
    obtain ⟨N, hN⟩ : ∃ A, Bt.numS (L.length : Int) = A := ⟨_, rfl⟩
    have EH := Lib.hid (HE.out A B C K N hA.symm hB.symm hC.symm hK.symm hN.symm)
    rw [hA] at NA zA
    rw [hB] at NB zB
    rw [hC] at NC zC
    rw [hK] at NK zK
    rw [hN] at NL zL
    clear hA hB hC hK hN HE
    generalize hH : headS a b c k (L.length : Int) = H at *
    generalize hE : evS a b c k L = E at *
    clear hH hE
    generalize hn : L.length = n at *
    have HN := Lib.hid hn
    clear hn
    generalize hy : w.heap.size = Y at *
    go_enter Try.func86, Try.ntmps86
    go_wp2_with fail
    rw [← W1.out]
    go_wp2_with fail
    refine CKh.out.mono ?_
    rintro e w2 ⟨rfl, b2⟩
    have K2 := K1h.out.below b2
    have K2h := Lib.hid K2
    have B2h := Lib.hid (B1h.out.trans (b2.mono (by have := B1h.out.size; omega)))
    clear b2 e0 e1 e2 e3 e4
    have d0 : w2.cell? ⟨Y, 0, none⟩ = some (.int .i64 a) := K2.cell 0
    have d1 : w2.cell? ⟨Y, 1, none⟩ = some (.int .i64 b) := K2.cell 1
    have d2 : w2.cell? ⟨Y, 2, none⟩ = some (.int .i64 c) := K2.cell 2
    have d3 : w2.cell? ⟨Y, 3, none⟩ = some (.string k) := K2.cell 3
    have d4 : w2.cell? ⟨Y, 4, none⟩ = some (.slice p n cp) := K2.cell 4
    clear K2
    go_wp2_with fail
    have x0 := fun d os => cell_regrown d0 d os
    have x1 := fun d os => cell_regrown d1 d os
    have x2 := fun d os => cell_regrown d2 d os
    have x3 := fun d os => cell_regrown d3 d os
    have C1 := Lib.hid (fun d os => Calls.regrown_of (d := d) (os := os) (NA.out (Go.Sort.grow (redrawn w2 d) os)))
    have C2 := Lib.hid (fun d os => Calls.regrown_of (d := d) (os := os) (NB.out (Go.Sort.grow (redrawn w2 d) os)))
    have C3 := Lib.hid (fun d os => Calls.regrown_of (d := d) (os := os) (NC.out (Go.Sort.grow (redrawn w2 d) os)))
    have C4 := Lib.hid (fun d os => Calls.regrown_of (d := d) (os := os) (NK.out (Go.Sort.grow (redrawn w2 d) os)))
    have q1 : ¬ (9223372036854775807 < A.size + B.size) := by omega
    have q2 : ¬ (9223372036854775807 < A.size + B.size + C.size) := by omega
    have q3 : ¬ (9223372036854775807 < A.size + B.size + C.size + K.size) := by omega
    have u1 : IntKind.u64.wrap a = a := IntWalk.u64_in _ (by omega)
    have u2 : IntKind.u64.wrap b = b := IntWalk.u64_in _ (by omega)
    have u3 : IntKind.u64.wrap c = c := IntWalk.u64_in _ (by omega)
    refine wp_region_quiet_below mixedE (by kernel_rfl) ?_
    repeat (quiet_step (first | (with_reducible exact C1.out _ _) | (with_reducible exact C2.out _ _) | (with_reducible exact C3.out _ _) | (with_reducible exact C4.out _ _)))
    refine wpQuiet_nil ?_
    intro _ hw'
    obtain ⟨⟨dq, osq⟩, hw''⟩ := hw'
    subst hw''
    have b3 := below_regrown w2 dq osq
    have K3 := K2h.out.below b3
    have B3h := Lib.hid (B2h.out.trans (b3.mono (by have := B2h.out.size; omega)))
    clear x0 x1 x2 x3 d0 d1 d2 d3 d4 C1 C2 C3 C4 b3
    generalize Go.Sort.grow (redrawn w2 dq) osq = w3 at *
    have d4 : w3.cell? ⟨Y, 4, none⟩ = some (.slice p n cp) := K3.cell 4
    have K3h := Lib.hid K3
    clear K3
    clear u1 u2 u3 q1 q2 q3 NA NB NC NK
    have u4 : IntKind.u64.wrap (n : Int) = (n : Int) := IntWalk.u64_in _ (by omega)
    go_wp2_with fail
    refine (NL.out _).mono ?_
    rintro e w4 ⟨rfl, b4⟩
    have K4 := K3h.out.below b4
    have B4h := Lib.hid (B3h.out.trans (b4.mono (by have := B3h.out.size; omega)))
    clear b4 d4 u4
    have d4 : w4.cell? ⟨Y, 4, none⟩ = some (.slice p n cp) := K4.cell 4
    clear K4
    have q4 : ¬ (9223372036854775807 < A.size + B.size + C.size + K.size + N.size) := by omega
    go_wp2_with fail
    rw [EH.out]
    clear q4 zA zB zC zK zL EH
    go_loopw [41, 5] (fun i s wq => ∃ (j : Nat) (S : ByteArray), i = .int .i64 j ∧ s = .string S ∧ j ≤ n ∧ Hid (S = H ++ fldsS (L.take j)) ∧ Below Y w wq) (fun i _ _ => n - (intOf i).toNat)
    case atStart => exact ⟨0, H, rfl, rfl, Nat.zero_le _, Lib.hid (ba_nil H).symm, B4h.out⟩
    case round =>
      obtain ⟨j, S, rfl, rfl, hj, hS, hB⟩ := hrel
      have HB := Lib.hid hB
      clear hB
      by_cases hjn : j < n
      · have hjL : j < L.length := by rw [HN.out]; exact hjn
        obtain ⟨g0, o, rfl, hg0, f0, f1, f2, f3, f4⟩ := XX.out j hjL
        have hgY : g0 < Y := by rw [← hy]; exact hg0
        rw [← HB.out.cell (p := ⟨g0, _, none⟩) hgY] at f0 f1 f2 f3 f4
        have FT := Lib.hid (fldsS_take hjL)
        have FS : S.size ≤ 1000 := by
          rw [hS.out, ba_size]
          have := SFh.out j
          omega
        obtain ⟨m1, m2, m3, m4⟩ := HF.out L[j] (List.getElem_mem hjL)
        have WF := HW.out L[j] (List.getElem_mem hjL)
        have SZ := HSz.out L[j] (List.getElem_mem hjL)
        have ek := isK_le' m2
        have WT := Lib.hid (fun W => what_any L[j].v WF (by omega) W)
        have TX := Lib.hid (fun W => Bt.text_any L[j].nm (by omega) W)
        have NX := Lib.hid (fun W => Bt.num_any L[j].v.k (by omega) (by omega) W)
        have y1 := textS_size L[j].nm
        have y2 := Bt.numS_size L[j].v.k
        have NS : Hid (∀ T M Q : ByteArray, T = Bt.textS L[j].nm → M = Bt.numS L[j].v.k → Q = whatS L[j].v → S ++ (T ++ M ++ Q) = H ++ fldsS (L.take (j + 1))) := Lib.hid (by
          rintro T M Q rfl rfl rfl
          rw [FT.out, hS.out, ba_assoc H, ba_assoc (Bt.textS _)]
          rfl)
        obtain ⟨T, hT⟩ : ∃ A, Bt.textS L[j].nm = A := ⟨_, rfl⟩
        obtain ⟨M, hM⟩ : ∃ A, Bt.numS L[j].v.k = A := ⟨_, rfl⟩
        obtain ⟨Q, hQ⟩ : ∃ A, whatS L[j].v = A := ⟨_, rfl⟩
        have NR := Lib.hid (NS.out T M Q hT.symm hM.symm hQ.symm)
        rw [hT] at TX y1
        rw [hM] at NX y2
        rw [hQ] at WT m3
        clear NS hT hM hQ FT WF SZ
        generalize L[j] = x at *
        obtain ⟨xn, xk, xm, xf, xs⟩ := x
        unfold Val.val at WT
        simp only at f0 f1 f2 f3 f4 m1 m2 m3 m4 ek WT TX NX
        obtain ⟨w5, hw5, N5, B5⟩ : ∃ w5, w5 = wr.alloc (.cells #[.string xn, .int .i64 xk, .int .i64 xm, .float .f64 xf, .string xs] 105) ∧ Blk w5 wr.heap.size 105 #[.string xn, .int .i64 xk, .int .i64 xm, .float .f64 xf, .string xs] ∧ Below wr.heap.size wr w5 :=
          ⟨_, rfl, heap_alloc_new wr _, (Below.refl _ wr).alloc (Nat.le_refl _) _⟩
        have W5 := Lib.hid hw5
        have B5h : Hid (Below Y w w5) := Lib.hid (HB.out.trans (B5.mono (by have := HB.out.size; omega)))
        have n0 : w5.cell? ⟨wr.heap.size, 0, none⟩ = some (.string xn) := N5.cell 0
        have n1 : w5.cell? ⟨wr.heap.size, 1, none⟩ = some (.int .i64 xk) := N5.cell 1
        have n2 : w5.cell? ⟨wr.heap.size, 2, none⟩ = some (.int .i64 xm) := N5.cell 2
        have n3 : w5.cell? ⟨wr.heap.size, 3, none⟩ = some (.float .f64 xf) := N5.cell 3
        have n4 : w5.cell? ⟨wr.heap.size, 4, none⟩ = some (.string xs) := N5.cell 4
        clear hw5 B5 N5
        go_wp2_with fail
        rw [← W5.out]
        have x0 := fun d os => cell_regrown n0 d os
        have x1 := fun d os => cell_regrown n1 d os
        have x2 := fun d os => cell_regrown n2 d os
        have x3 := fun d os => cell_regrown n3 d os
        have x4 := fun d os => cell_regrown n4 d os
        have C1 := Lib.hid (fun d os => Calls.regrown_of (d := d) (os := os) (TX.out (Go.Sort.grow (redrawn w5 d) os)))
        have C2 := Lib.hid (fun d os => Calls.regrown_of (d := d) (os := os) (NX.out (Go.Sort.grow (redrawn w5 d) os)))
        have C3 := Lib.hid (fun d os => Calls.regrown_of (d := d) (os := os) (WT.out (Go.Sort.grow (redrawn w5 d) os)))
        have u1 : IntKind.u64.wrap xk = xk := IntWalk.u64_in _ (by omega)
        have q1 : ¬ (9223372036854775807 < T.size + M.size) := by omega
        have q2 : ¬ (9223372036854775807 < T.size + M.size + Q.size) := by omega
        have q3 : ¬ (9223372036854775807 < S.size + (T.size + M.size + Q.size)) := by omega
        refine wp_region_quiet_below mixedE (by kernel_rfl) ?_
        repeat (quiet_step (first | (with_reducible exact C1.out _ _) | (with_reducible exact C2.out _ _) | (with_reducible exact C3.out _ _)))
        refine wpQuiet_nil ?_
        intro _ hw'
        obtain ⟨⟨dq, osq⟩, hw''⟩ := hw'
        subst hw''
        have b6 := below_regrown w5 dq osq
        have B6h := Lib.hid (B5h.out.trans (b6.mono (by have := B5h.out.size; omega)))
        clear b6 x0 x1 x2 x3 x4 n0 n1 n2 n3 n4 C1 C2 C3 u1 q1 q2 q3
        generalize Go.Sort.grow (redrawn w5 dq) osq = w6 at *
        go_wp2_with fail
        go_roundw
        case rel => exact ⟨j + 1, _, by go_num, rfl, by omega, NR, B6h.out⟩
        case measure => simp [intOf]; omega
      · obtain rfl : j = n := by omega
        go_wp2_with fail
        go_ret2
        exact ⟨ret_enc (hS.out.trans RE.out.symm), HB.out⟩
end Go.Proofs.Ytbghjcfepjbppaa
/-
  A COMMAND's TEXT: sm.nothing, may, Write, of CmdOpen and CmdEvent.
-/
namespace Go.Proofs.Ytbghjcfepjbppaa
open Go.RowKit
/-- a command of whose parts those of its event alone are not zero -/
def cmdV (k a b c : Int) (s : ByteArray) (f : Value) : Value := .agg #[.int .i64 k, .int .i64 a, .int .i64 b, .int .i64 c, .string s, f, .int .i64 0, .string ⟨#[]⟩, .string ⟨#[]⟩, .int .i64 0]
set_option maxRecDepth 100000 in
theorem nothing_zero (k : Int) (w : World) : Calls Try.prog 98 #[cmdV k 0 0 0 ⟨#[]⟩ (.slice none 0 0)] w fun e w' => e = .returned (.bool true) ∧ Below w.heap.size w w' := by
  have FIN := Lib.hid (fun o1 o2 => ((Below.refl w.heap.size w).alloc (Nat.le_refl _) o1).alloc (by simp) o2)
  unfold cmdV
  go_enter Try.func98, Try.ntmps98
  go_wp2_with fail
  go_ret
  exact ⟨rfl, FIN.out _ _⟩
set_option maxRecDepth 100000 in
theorem may_open (w : World) : Calls Try.prog 85 #[cmdV 1 0 0 0 ⟨#[]⟩ (.slice none 0 0)] w fun e w' => e = .returned (.bool true) ∧ Below w.heap.size w w' := by
  have NO := nothing_zero 1
  unfold cmdV at NO ⊢
  have NOh := Lib.hid NO
  have FIN := Lib.hid (fun o1 => (Below.refl w.heap.size w).alloc (Nat.le_refl _) o1)
  clear NO
  go_enter Try.func85, Try.ntmps85
  go_wp2_with fail
  refine (NOh.out _).mono ?_
  rintro e w1 ⟨rfl, b1⟩
  have B1 := Lib.hid b1
  clear b1
  go_wp2_with fail
  go_ret
  exact ⟨rfl, (FIN.out _).trans (B1.out.mono (by simp))⟩
set_option maxHeartbeats 1000000 in
set_option maxRecDepth 100000 in
theorem may_event (a b c : Int) (k : ByteArray) (p : Option Addr) (cp : Nat) (L : List Fld) (w : World) (hl : L.length ≤ 100) (hk : k.size ≤ 9223372036854775807) (hx : Flds w p L) (hS : ∀ x ∈ L, x.nm.size ≤ 9223372036854775807 ∧ x.v.s.size ≤ 9223372036854775807)
    (ha : 1 ≤ a) (hb : 1 ≤ b) (hC : chkB a b c k L = true) :
    Calls Try.prog 85 #[cmdV 2 a b c k (.slice p L.length cp)] w fun e w' => e = .returned (.bool true) ∧ Below w.heap.size w w' := by
  obtain ⟨w1, hw1, K1, B1, hs1⟩ : ∃ w1, w1 = w.alloc (.cells #[.int .i64 2, .int .i64 a, .int .i64 b, .int .i64 c, .string k, .slice p L.length cp, .int .i64 0, .string ⟨#[]⟩, .string ⟨#[]⟩, .int .i64 0] 138) ∧ Blk w1 w.heap.size 138 #[.int .i64 2, .int .i64 a, .int .i64 b, .int .i64 c, .string k, .slice p L.length cp, .int .i64 0, .string ⟨#[]⟩, .string ⟨#[]⟩, .int .i64 0] ∧ Below w.heap.size w w1 ∧ w1.heap.size = w.heap.size + 1 :=
    ⟨_, rfl, heap_alloc_new w _, (Below.refl w.heap.size w).alloc (Nat.le_refl _) _, by simp⟩
  have CH := check_any a b c k p cp L w1 hl hk (hx.below B1) hS
  rw [hC] at CH
  have CHh := Lib.hid CH
  have NO := nothing_zero 2
  unfold cmdV at NO ⊢
  unfold evV at CHh
  have NOh := Lib.hid NO
  have W1 := Lib.hid hw1
  have K1h := Lib.hid K1
  have FIN : Hid (∀ (w2 w3 : World), Below w1.heap.size w1 w2 → Below w2.heap.size (((((w2.setCell ⟨w.heap.size, 1, none⟩ (.int .i64 0)).setCell ⟨w.heap.size, 2, none⟩ (.int .i64 0)).setCell ⟨w.heap.size, 3, none⟩ (.int .i64 0)).setCell ⟨w.heap.size, 4, none⟩ (.string ⟨#[]⟩)).setCell ⟨w.heap.size, 5, none⟩ (.slice none 0 0)) w3 → Below w.heap.size w w3) := Lib.hid (by
    intro w2 w3 b2 b3
    have b : Below w.heap.size w w2 := B1.trans (b2.mono (by omega))
    have hz := b2.size
    exact (((((b.setCell (p := ⟨w.heap.size, 1, none⟩) (Nat.le_refl _) _).setCell (p := ⟨w.heap.size, 2, none⟩) (Nat.le_refl _) _).setCell (p := ⟨w.heap.size, 3, none⟩) (Nat.le_refl _) _).setCell (p := ⟨w.heap.size, 4, none⟩) (Nat.le_refl _) _).setCell (p := ⟨w.heap.size, 5, none⟩) (Nat.le_refl _) _).trans (b3.mono (by omega)))
  have e1 : w1.cell? ⟨w.heap.size, 1, none⟩ = some (.int .i64 a) := K1.cell 1
  have e2 : w1.cell? ⟨w.heap.size, 2, none⟩ = some (.int .i64 b) := K1.cell 2
  have e3 : w1.cell? ⟨w.heap.size, 3, none⟩ = some (.int .i64 c) := K1.cell 3
  have e4 : w1.cell? ⟨w.heap.size, 4, none⟩ = some (.string k) := K1.cell 4
  have e5 : w1.cell? ⟨w.heap.size, 5, none⟩ = some (.slice p L.length cp) := K1.cell 5
  have e0 : w1.cell? ⟨w.heap.size, 0, none⟩ = some (.int .i64 2) := K1.cell 0
  clear NO CH hw1 K1 hx hS hl hk B1 hC
  generalize L.length = n at *
  generalize hy : w.heap.size = Y at *
  go_enter Try.func85, Try.ntmps85
  go_wp2_with fail
  rw [← W1.out]
  go_wp2_with fail
  refine (CHh.out).mono ?_
  rintro e w2 ⟨rfl, b2⟩
  have K2 := K1h.out.below b2
  have c0 : w2.cell? ⟨Y, 0, none⟩ = some (.int .i64 2) := K2.cell 0
  have c1 : w2.cell? ⟨Y, 1, none⟩ = some (.int .i64 a) := K2.cell 1
  have c2 : w2.cell? ⟨Y, 2, none⟩ = some (.int .i64 b) := K2.cell 2
  have c3 : w2.cell? ⟨Y, 3, none⟩ = some (.int .i64 c) := K2.cell 3
  have c4 : w2.cell? ⟨Y, 4, none⟩ = some (.string k) := K2.cell 4
  have c5 : w2.cell? ⟨Y, 5, none⟩ = some (.slice p n cp) := K2.cell 5
  have c6 : w2.cell? ⟨Y, 6, none⟩ = some (.int .i64 0) := K2.cell 6
  have c7 : w2.cell? ⟨Y, 7, none⟩ = some (.string ⟨#[]⟩) := K2.cell 7
  have c8 : w2.cell? ⟨Y, 8, none⟩ = some (.string ⟨#[]⟩) := K2.cell 8
  have c9 : w2.cell? ⟨Y, 9, none⟩ = some (.int .i64 0) := K2.cell 9
  have fz : ∀ i, w2.frozen? ⟨Y, i, none⟩ = false := fun i => K2.free i
  have hE : errI true = 0 := rfl
  have B2 := Lib.hid b2
  clear K2 b2 e0 e1 e2 e3 e4 e5 W1 K1h CHh
  rw [hE]
  go_wp2_with fail
  refine (NOh.out _).mono ?_
  rintro e w3 ⟨rfl, b3⟩
  have B3 := FIN.out _ _ B2.out (b3.mono (by simp))
  clear b3 c0 c1 c2 c3 c4 c5 c6 c7 c8 c9 fz
  go_wp2_with fail
  go_ret
  exact ⟨rfl, B3⟩
end Go.Proofs.Ytbghjcfepjbppaa
/-
  A COMMAND's TEXT: sm.Write of CmdOpen and of CmdEvent.
-/
namespace Go.Proofs.Ytbghjcfepjbppaa
open Go.RowKit
theorem num_one : Bt.numS 1 = ⟨#[1]⟩ := by decide +kernel
theorem num_two : Bt.numS 2 = ⟨#[2]⟩ := by decide +kernel
set_option maxHeartbeats 1000000 in
set_option maxRecDepth 100000 in
theorem write_open (w : World) : Calls Try.prog 67 #[cmdV 1 0 0 0 ⟨#[]⟩ (.slice none 0 0)] w fun e w' => e = .returned (.tuple #[.string ⟨#[1]⟩, .int .i64 0]) ∧ Below w.heap.size w w' := by
  obtain ⟨w1, hw1, K1, B1⟩ : ∃ w1, w1 = w.alloc (.cells #[.int .i64 1, .int .i64 0, .int .i64 0, .int .i64 0, .string ⟨#[]⟩, .slice none 0 0, .int .i64 0, .string ⟨#[]⟩, .string ⟨#[]⟩, .int .i64 0] 138) ∧ Blk w1 w.heap.size 138 #[.int .i64 1, .int .i64 0, .int .i64 0, .int .i64 0, .string ⟨#[]⟩, .slice none 0 0, .int .i64 0, .string ⟨#[]⟩, .string ⟨#[]⟩, .int .i64 0] ∧ Below w.heap.size w w1 :=
    ⟨_, rfl, heap_alloc_new w _, (Below.refl w.heap.size w).alloc (Nat.le_refl _) _⟩
  have MO := Lib.hid may_open
  have NM := Lib.hid (Bt.num_any 1 (by decide) (by decide))
  rw [num_one] at NM
  unfold cmdV at MO ⊢
  have K1h := Lib.hid K1
  have B1h := Lib.hid B1
  have W1 := Lib.hid hw1
  have hz := B1.size
  clear K1 B1 hw1
  generalize hy : w.heap.size = Y at *
  go_enter Try.func67, Try.ntmps67
  go_wp2_with fail
  rw [← W1.out]
  have e0 : w1.cell? ⟨Y, 0, none⟩ = some (.int .i64 1) := K1h.out.cell 0
  have e1 : w1.cell? ⟨Y, 1, none⟩ = some (.int .i64 0) := K1h.out.cell 1
  have e2 : w1.cell? ⟨Y, 2, none⟩ = some (.int .i64 0) := K1h.out.cell 2
  have e3 : w1.cell? ⟨Y, 3, none⟩ = some (.int .i64 0) := K1h.out.cell 3
  have e4 : w1.cell? ⟨Y, 4, none⟩ = some (.string ⟨#[]⟩) := K1h.out.cell 4
  have e5 : w1.cell? ⟨Y, 5, none⟩ = some (.slice none 0 0) := K1h.out.cell 5
  have e6 : w1.cell? ⟨Y, 6, none⟩ = some (.int .i64 0) := K1h.out.cell 6
  have e7 : w1.cell? ⟨Y, 7, none⟩ = some (.string ⟨#[]⟩) := K1h.out.cell 7
  have e8 : w1.cell? ⟨Y, 8, none⟩ = some (.string ⟨#[]⟩) := K1h.out.cell 8
  have e9 : w1.cell? ⟨Y, 9, none⟩ = some (.int .i64 0) := K1h.out.cell 9
  go_wp2_with fail
  refine (MO.out _).mono ?_
  rintro e w2 ⟨rfl, b2⟩
  have c0 : w2.cell? ⟨Y, 0, none⟩ = some (.int .i64 1) := (K1h.out.below b2).cell 0
  have B2 := Lib.hid (B1h.out.trans (b2.mono hz))
  have hz2 := Nat.le_trans hz b2.size
  have K2h := Lib.hid (K1h.out.below b2)
  clear b2 e0 e1 e2 e3 e4 e5 e6 e7 e8 e9 K1h B1h W1
  go_wp2_with fail
  refine (NM.out _).mono ?_
  rintro e w3 ⟨rfl, b3⟩
  have B3 := Lib.hid (B2.out.trans (b3.mono hz2))
  have d0 : w3.cell? ⟨Y, 0, none⟩ = some (.int .i64 1) := (K2h.out.below b3).cell 0
  clear b3 B2 c0 K2h
  go_wp2_with fail
  go_ret2
  exact ⟨rfl, B3.out⟩
/-- the text of a command that tells an event -/
def askS (a b c : Int) (k : ByteArray) (L : List Fld) : ByteArray := ⟨#[2]⟩ ++ evS a b c k L
set_option maxHeartbeats 1000000 in
set_option maxRecDepth 100000 in
theorem write_event (a b c : Int) (k : ByteArray) (p : Option Addr) (cp : Nat) (L : List Fld) (w : World) (hl : L.length ≤ 100) (hk : k.size ≤ 9223372036854775807) (hx : Flds w p L) (hS : ∀ x ∈ L, x.nm.size ≤ 9223372036854775807 ∧ x.v.s.size ≤ 281474976710656)
    (hW : ∀ x ∈ L, x.v.Wf) (ha : 1 ≤ a) (hb : 1 ≤ b) (hC : chkB a b c k L = true) (hB : (evS a b c k L).size ≤ 100000) :
    Calls Try.prog 67 #[cmdV 2 a b c k (.slice p L.length cp)] w fun e w' => e = .returned (.tuple #[.string (askS a b c k L), .int .i64 0]) ∧ Below w.heap.size w w' := by
  obtain ⟨w1, hw1, K1, B1⟩ : ∃ w1, w1 = w.alloc (.cells #[.int .i64 2, .int .i64 a, .int .i64 b, .int .i64 c, .string k, .slice p L.length cp, .int .i64 0, .string ⟨#[]⟩, .string ⟨#[]⟩, .int .i64 0] 138) ∧ Blk w1 w.heap.size 138 #[.int .i64 2, .int .i64 a, .int .i64 b, .int .i64 c, .string k, .slice p L.length cp, .int .i64 0, .string ⟨#[]⟩, .string ⟨#[]⟩, .int .i64 0] ∧ Below w.heap.size w w1 :=
    ⟨_, rfl, heap_alloc_new w _, (Below.refl w.heap.size w).alloc (Nat.le_refl _) _⟩
  have MO := Lib.hid (may_event a b c k p cp L w1 hl hk (hx.below B1) (fun x hx => by have := hS x hx; omega) ha hb hC)
  have EN : Hid (∀ w2, Below w1.heap.size w1 w2 → Calls Try.prog 86 #[evV a b c k (.slice p L.length cp)] w2 fun e w' => e = .returned (.tuple #[.string (evS a b c k L), .int .i64 0]) ∧ Below w2.heap.size w2 w') := Lib.hid (by
    intro w2 b2
    have h := encode_any a b c k p cp L w2 hl hk ((hx.below B1).below b2) hS hW
    rw [hC] at h
    exact h)
  have NM := Lib.hid (Bt.num_any 2 (by decide) (by decide))
  rw [num_two] at NM
  unfold cmdV at MO ⊢
  unfold evV at EN
  unfold askS
  have K1h := Lib.hid K1
  have B1h := Lib.hid B1
  have W1 := Lib.hid hw1
  have hz := B1.size
  clear K1 B1 hw1 hx hS hW hl hk ha hb hC
  generalize evS a b c k L = E at *
  generalize L.length = n at *
  generalize hy : w.heap.size = Y at *
  go_enter Try.func67, Try.ntmps67
  go_wp2_with fail
  rw [← W1.out]
  have e0 : w1.cell? ⟨Y, 0, none⟩ = some (.int .i64 2) := K1h.out.cell 0
  have e1 : w1.cell? ⟨Y, 1, none⟩ = some (.int .i64 a) := K1h.out.cell 1
  have e2 : w1.cell? ⟨Y, 2, none⟩ = some (.int .i64 b) := K1h.out.cell 2
  have e3 : w1.cell? ⟨Y, 3, none⟩ = some (.int .i64 c) := K1h.out.cell 3
  have e4 : w1.cell? ⟨Y, 4, none⟩ = some (.string k) := K1h.out.cell 4
  have e5 : w1.cell? ⟨Y, 5, none⟩ = some (.slice p n cp) := K1h.out.cell 5
  have e6 : w1.cell? ⟨Y, 6, none⟩ = some (.int .i64 0) := K1h.out.cell 6
  have e7 : w1.cell? ⟨Y, 7, none⟩ = some (.string ⟨#[]⟩) := K1h.out.cell 7
  have e8 : w1.cell? ⟨Y, 8, none⟩ = some (.string ⟨#[]⟩) := K1h.out.cell 8
  have e9 : w1.cell? ⟨Y, 9, none⟩ = some (.int .i64 0) := K1h.out.cell 9
  go_wp2_with fail
  refine (MO.out).mono ?_
  rintro e w2 ⟨rfl, b2⟩
  have c0 : w2.cell? ⟨Y, 0, none⟩ = some (.int .i64 2) := (K1h.out.below b2).cell 0
  have B2 := Lib.hid (B1h.out.trans (b2.mono hz))
  have hz2 := Nat.le_trans hz b2.size
  have B2' := Lib.hid b2
  clear b2 e0 e1 e2 e3 e4 e5 e6 e7 e8 e9 W1
  go_wp2_with fail
  refine (NM.out _).mono ?_
  rintro e w3 ⟨rfl, b3⟩
  have b13 : Below w1.heap.size w1 w3 := B2'.out.trans (b3.mono B2'.out.size)
  have K3 := K1h.out.below b13
  have e0 : w3.cell? ⟨Y, 0, none⟩ = some (.int .i64 2) := K3.cell 0
  have e1 : w3.cell? ⟨Y, 1, none⟩ = some (.int .i64 a) := K3.cell 1
  have e2 : w3.cell? ⟨Y, 2, none⟩ = some (.int .i64 b) := K3.cell 2
  have e3 : w3.cell? ⟨Y, 3, none⟩ = some (.int .i64 c) := K3.cell 3
  have e4 : w3.cell? ⟨Y, 4, none⟩ = some (.string k) := K3.cell 4
  have e5 : w3.cell? ⟨Y, 5, none⟩ = some (.slice p n cp) := K3.cell 5
  have EN3 := Lib.hid (EN.out w3 b13)
  have B3 := Lib.hid (B2.out.trans (b3.mono hz2))
  have hz3 := Nat.le_trans hz2 b3.size
  clear b3 B2 c0 b13 K3 K1h EN B2'
  go_wp2_with fail
  refine (EN3.out).mono ?_
  rintro e w4 ⟨rfl, b4⟩
  have B4 := Lib.hid (B3.out.trans (b4.mono hz3))
  clear b4 B3 e0 e1 e2 e3 e4 e5 EN3
  go_wp2_with fail
  all_goals (go_ret2; exact ⟨rfl, B4.out⟩)
end Go.Proofs.Ytbghjcfepjbppaa
/-
  A TELLER's Ask.
-/
namespace Go.Proofs.Ytbghjcfepjbppaa
open Go.RowKit
def askV (to : Int) (s nm : ByteArray) (fr mo : Int) : Value := .agg #[.int .i64 to, .string s, .string nm, .int .i64 fr, .int .i64 mo]
theorem below5 {B Y : Nat} {w w3 : World} (h : Below B w w3) (hB : B ≤ Y) (a b c d e : Value) : Below B w (((((w3.setCell ⟨Y, 0, none⟩ a).setCell ⟨Y, 1, none⟩ b).setCell ⟨Y, 2, none⟩ c).setCell ⟨Y, 3, none⟩ d).setCell ⟨Y, 4, none⟩ e) :=
  ((((h.setCell (p := ⟨Y, 0, none⟩) hB _).setCell (p := ⟨Y, 1, none⟩) hB _).setCell (p := ⟨Y, 2, none⟩) hB _).setCell (p := ⟨Y, 3, none⟩) hB _).setCell (p := ⟨Y, 4, none⟩) hB _
theorem ask_nil (w : World) : Calls Try.prog 34 #[.pointer none] w fun e w' => e = .returned (.tuple #[askV 0 ⟨#[]⟩ ⟨#[]⟩ 0 0, .bool false]) ∧ Below w.heap.size w w' := by
  have FIN := Lib.hid (fun o => (Below.refl w.heap.size w).alloc (Nat.le_refl _) o)
  unfold askV
  go_enter Try.func34, Try.ntmps34
  go_wp2_with fail
  refine (left_nil _).mono ?_
  rintro e w1 ⟨rfl, rfl⟩
  go_wp2_with fail
  refine bodyPost_ret (by simp [results, Try.results34, go_sem]; try rfl) rfl ?_
  exact ⟨rfl, FIN.out _⟩
section
variable {w : World} {t : Nat} {nodes to id sq : Int} {wv rv : Value}
set_option maxHeartbeats 1000000 in
set_option maxRecDepth 100000 in
theorem ask_none {a : Option Addr} {c : Nat} (T : Blk w t 98 (tel nodes to id sq (.slice a 0 c) rv)) : Calls Try.prog 34 #[.pointer (some ⟨t, 0, none⟩)] w fun e w' => e = .returned (.tuple #[askV 0 ⟨#[]⟩ ⟨#[]⟩ 0 0, .bool false]) ∧ Below w.heap.size w w' := by
  have FIN := Lib.hid (fun o => (Below.refl w.heap.size w).alloc (Nat.le_refl _) o)
  have LF := Lib.hid (fun o => left_any (T.below ((Below.refl w.heap.size w).alloc (Nat.le_refl _) o)))
  clear T
  unfold askV
  go_enter Try.func34, Try.ntmps34
  go_wp2_with fail
  refine (LF.out _).mono ?_
  rintro e w1 ⟨rfl, rfl⟩
  go_wp2_with fail
  refine bodyPost_ret (by simp [results, Try.results34, go_sem]; try rfl) rfl ?_
  exact ⟨rfl, FIN.out _⟩
set_option maxHeartbeats 2000000 in
set_option maxRecDepth 100000 in
theorem ask_open {a : Option Addr} {n c : Nat} (T : Blk w t 98 (tel nodes to 0 sq (.slice a n c) rv)) (hn : 0 < n) : Calls Try.prog 34 #[.pointer (some ⟨t, 0, none⟩)] w fun e w' => e = .returned (.tuple #[askV to ⟨#[1]⟩ ⟨#[]⟩ 0 0, .bool true]) ∧ Below w.heap.size w w' := by
  obtain ⟨w1, hw1, K1, B1, hs1⟩ : ∃ w1, w1 = w.alloc (.cells #[.int .i64 0, .string ⟨#[]⟩, .string ⟨#[]⟩, .int .i64 0, .int .i64 0] 63) ∧ Blk w1 w.heap.size 63 #[.int .i64 0, .string ⟨#[]⟩, .string ⟨#[]⟩, .int .i64 0, .int .i64 0] ∧ Below w.heap.size w w1 ∧ w1.heap.size = w.heap.size + 1 :=
    ⟨_, rfl, heap_alloc_new w _, (Below.refl w.heap.size w).alloc (Nat.le_refl _) _, by simp⟩
  obtain ⟨w2, hw2, K2, B2, hs2⟩ : ∃ w2, w2 = w1.alloc (.cells #[.int .i64 1, .int .i64 0, .int .i64 0, .int .i64 0, .string ⟨#[]⟩, .slice none 0 0, .int .i64 0, .string ⟨#[]⟩, .string ⟨#[]⟩, .int .i64 0] 138) ∧ Blk w2 w1.heap.size 138 #[.int .i64 1, .int .i64 0, .int .i64 0, .int .i64 0, .string ⟨#[]⟩, .slice none 0 0, .int .i64 0, .string ⟨#[]⟩, .string ⟨#[]⟩, .int .i64 0] ∧ Below w1.heap.size w1 w2 ∧ w2.heap.size = w1.heap.size + 1 :=
    ⟨_, rfl, heap_alloc_new w1 _, (Below.refl w1.heap.size w1).alloc (Nat.le_refl _) _, by simp⟩
  have LF := Lib.hid (left_any (T.below B1))
  have OP := Lib.hid (open_any ((T.below B1).below B2))
  have WR := Lib.hid (write_open w2)
  have T2 := Lib.hid ((T.below B1).below B2)
  have K12 := Lib.hid (K1.below B2)
  have K2h := Lib.hid K2
  have BB := Lib.hid (B1.trans (B2.mono (by omega)))
  have hn1 : ((n : Int) == 0) = false := by rw [beq_eq_false_iff_ne]; omega
  have W1 := Lib.hid hw1
  have W2 := Lib.hid hw2
  have hlt := T.lt
  clear T K1 K2 B1 B2 hw1 hw2
  unfold askV
  unfold cmdV at WR
  generalize hy : w.heap.size = Y at *
  have e0 : w2.cell? ⟨Y + 1, 0, none⟩ = some (.int .i64 1) := by have := K2h.out.cell 0; rw [hs1] at this; exact this
  have e1 : w2.cell? ⟨Y + 1, 1, none⟩ = some (.int .i64 0) := by have := K2h.out.cell 1; rw [hs1] at this; exact this
  have e2 : w2.cell? ⟨Y + 1, 2, none⟩ = some (.int .i64 0) := by have := K2h.out.cell 2; rw [hs1] at this; exact this
  have e3 : w2.cell? ⟨Y + 1, 3, none⟩ = some (.int .i64 0) := by have := K2h.out.cell 3; rw [hs1] at this; exact this
  have e4 : w2.cell? ⟨Y + 1, 4, none⟩ = some (.string ⟨#[]⟩) := by have := K2h.out.cell 4; rw [hs1] at this; exact this
  have e5 : w2.cell? ⟨Y + 1, 5, none⟩ = some (.slice none 0 0) := by have := K2h.out.cell 5; rw [hs1] at this; exact this
  have e6 : w2.cell? ⟨Y + 1, 6, none⟩ = some (.int .i64 0) := by have := K2h.out.cell 6; rw [hs1] at this; exact this
  have e7 : w2.cell? ⟨Y + 1, 7, none⟩ = some (.string ⟨#[]⟩) := by have := K2h.out.cell 7; rw [hs1] at this; exact this
  have e8 : w2.cell? ⟨Y + 1, 8, none⟩ = some (.string ⟨#[]⟩) := by have := K2h.out.cell 8; rw [hs1] at this; exact this
  have e9 : w2.cell? ⟨Y + 1, 9, none⟩ = some (.int .i64 0) := by have := K2h.out.cell 9; rw [hs1] at this; exact this
  go_enter Try.func34, Try.ntmps34
  go_wp2_with fail
  rw [← W1.out]
  refine LF.out.mono ?_
  rintro e w1' ⟨rfl, rfl⟩
  go_wp2_with fail
  rw [← W2.out]
  refine OP.out.mono ?_
  rintro e w2' ⟨rfl, rfl⟩
  go_wp2_with fail
  refine WR.out.mono ?_
  rintro e w3 ⟨rfl, b3⟩
  have c1 : w3.cell? ⟨t, 1, none⟩ = some (.int .i64 to) := (T2.out.below b3).cell 1
  have z0 : w3.cell? ⟨Y, 0, none⟩ = some (.int .i64 0) := (K12.out.below b3).cell 0
  have z1 : w3.cell? ⟨Y, 1, none⟩ = some (.string ⟨#[]⟩) := (K12.out.below b3).cell 1
  have z2 : w3.cell? ⟨Y, 2, none⟩ = some (.string ⟨#[]⟩) := (K12.out.below b3).cell 2
  have z3 : w3.cell? ⟨Y, 3, none⟩ = some (.int .i64 0) := (K12.out.below b3).cell 3
  have z4 : w3.cell? ⟨Y, 4, none⟩ = some (.int .i64 0) := (K12.out.below b3).cell 4
  have fz : ∀ i, w3.frozen? ⟨Y, i, none⟩ = false := (K12.out.below b3).free
  have B3 := Lib.hid (BB.out.trans (b3.mono (by omega)))
  clear b3 e0 e1 e2 e3 e4 e5 e6 e7 e8 e9 W1 W2 T2 K12 K2h BB
  go_wp2_with fail
  refine bodyPost_ret (by simp [results, Try.results34, go_sem, z0, z1, z2, z3, z4]; try rfl) rfl ?_
  refine ⟨rfl, ?_⟩
  exact below5 B3.out (Nat.le_refl _) _ _ _ _ _
theorem set10 {v : World} {Y : Nat} {x0 x1 x2 x3 x4 x5 x6 x7 x8 x9 : Value} (h : Blk v Y 138 #[x0, x1, x2, x3, x4, x5, x6, x7, x8, x9]) (y0 y1 y2 y3 y4 y5 y6 y7 y8 y9 : Value) :
    ∃ W5, W5 = ((((((((((v.setCell ⟨Y, 0, none⟩ y0).setCell ⟨Y, 1, none⟩ y1).setCell ⟨Y, 2, none⟩ y2).setCell ⟨Y, 3, none⟩ y3).setCell ⟨Y, 4, none⟩ y4).setCell ⟨Y, 5, none⟩ y5).setCell ⟨Y, 6, none⟩ y6).setCell ⟨Y, 7, none⟩ y7).setCell ⟨Y, 8, none⟩ y8).setCell ⟨Y, 9, none⟩ y9) ∧
      Blk W5 Y 138 #[y0, y1, y2, y3, y4, y5, y6, y7, y8, y9] ∧ Below Y v W5 := by
  have l := Nat.le_refl Y
  have h0 : Blk (v.setCell ⟨Y, 0, none⟩ y0) Y 138 #[y0, x1, x2, x3, x4, x5, x6, x7, x8, x9] := (show #[x0, x1, x2, x3, x4, x5, x6, x7, x8, x9].setIfInBounds 0 y0 = #[y0, x1, x2, x3, x4, x5, x6, x7, x8, x9] from rfl) ▸ h.set 0 y0
  have h1 : Blk ((v.setCell ⟨Y, 0, none⟩ y0).setCell ⟨Y, 1, none⟩ y1) Y 138 #[y0, y1, x2, x3, x4, x5, x6, x7, x8, x9] := (show #[y0, x1, x2, x3, x4, x5, x6, x7, x8, x9].setIfInBounds 1 y1 = #[y0, y1, x2, x3, x4, x5, x6, x7, x8, x9] from rfl) ▸ h0.set 1 y1
  have h2 : Blk (((v.setCell ⟨Y, 0, none⟩ y0).setCell ⟨Y, 1, none⟩ y1).setCell ⟨Y, 2, none⟩ y2) Y 138 #[y0, y1, y2, x3, x4, x5, x6, x7, x8, x9] := (show #[y0, y1, x2, x3, x4, x5, x6, x7, x8, x9].setIfInBounds 2 y2 = #[y0, y1, y2, x3, x4, x5, x6, x7, x8, x9] from rfl) ▸ h1.set 2 y2
  have h3 : Blk ((((v.setCell ⟨Y, 0, none⟩ y0).setCell ⟨Y, 1, none⟩ y1).setCell ⟨Y, 2, none⟩ y2).setCell ⟨Y, 3, none⟩ y3) Y 138 #[y0, y1, y2, y3, x4, x5, x6, x7, x8, x9] := (show #[y0, y1, y2, x3, x4, x5, x6, x7, x8, x9].setIfInBounds 3 y3 = #[y0, y1, y2, y3, x4, x5, x6, x7, x8, x9] from rfl) ▸ h2.set 3 y3
  have h4 : Blk (((((v.setCell ⟨Y, 0, none⟩ y0).setCell ⟨Y, 1, none⟩ y1).setCell ⟨Y, 2, none⟩ y2).setCell ⟨Y, 3, none⟩ y3).setCell ⟨Y, 4, none⟩ y4) Y 138 #[y0, y1, y2, y3, y4, x5, x6, x7, x8, x9] := (show #[y0, y1, y2, y3, x4, x5, x6, x7, x8, x9].setIfInBounds 4 y4 = #[y0, y1, y2, y3, y4, x5, x6, x7, x8, x9] from rfl) ▸ h3.set 4 y4
  have h5 : Blk ((((((v.setCell ⟨Y, 0, none⟩ y0).setCell ⟨Y, 1, none⟩ y1).setCell ⟨Y, 2, none⟩ y2).setCell ⟨Y, 3, none⟩ y3).setCell ⟨Y, 4, none⟩ y4).setCell ⟨Y, 5, none⟩ y5) Y 138 #[y0, y1, y2, y3, y4, y5, x6, x7, x8, x9] := (show #[y0, y1, y2, y3, y4, x5, x6, x7, x8, x9].setIfInBounds 5 y5 = #[y0, y1, y2, y3, y4, y5, x6, x7, x8, x9] from rfl) ▸ h4.set 5 y5
  have h6 : Blk (((((((v.setCell ⟨Y, 0, none⟩ y0).setCell ⟨Y, 1, none⟩ y1).setCell ⟨Y, 2, none⟩ y2).setCell ⟨Y, 3, none⟩ y3).setCell ⟨Y, 4, none⟩ y4).setCell ⟨Y, 5, none⟩ y5).setCell ⟨Y, 6, none⟩ y6) Y 138 #[y0, y1, y2, y3, y4, y5, y6, x7, x8, x9] := (show #[y0, y1, y2, y3, y4, y5, x6, x7, x8, x9].setIfInBounds 6 y6 = #[y0, y1, y2, y3, y4, y5, y6, x7, x8, x9] from rfl) ▸ h5.set 6 y6
  have h7 : Blk ((((((((v.setCell ⟨Y, 0, none⟩ y0).setCell ⟨Y, 1, none⟩ y1).setCell ⟨Y, 2, none⟩ y2).setCell ⟨Y, 3, none⟩ y3).setCell ⟨Y, 4, none⟩ y4).setCell ⟨Y, 5, none⟩ y5).setCell ⟨Y, 6, none⟩ y6).setCell ⟨Y, 7, none⟩ y7) Y 138 #[y0, y1, y2, y3, y4, y5, y6, y7, x8, x9] := (show #[y0, y1, y2, y3, y4, y5, y6, x7, x8, x9].setIfInBounds 7 y7 = #[y0, y1, y2, y3, y4, y5, y6, y7, x8, x9] from rfl) ▸ h6.set 7 y7
  have h8 : Blk (((((((((v.setCell ⟨Y, 0, none⟩ y0).setCell ⟨Y, 1, none⟩ y1).setCell ⟨Y, 2, none⟩ y2).setCell ⟨Y, 3, none⟩ y3).setCell ⟨Y, 4, none⟩ y4).setCell ⟨Y, 5, none⟩ y5).setCell ⟨Y, 6, none⟩ y6).setCell ⟨Y, 7, none⟩ y7).setCell ⟨Y, 8, none⟩ y8) Y 138 #[y0, y1, y2, y3, y4, y5, y6, y7, y8, x9] := (show #[y0, y1, y2, y3, y4, y5, y6, y7, x8, x9].setIfInBounds 8 y8 = #[y0, y1, y2, y3, y4, y5, y6, y7, y8, x9] from rfl) ▸ h7.set 8 y8
  have h9 : Blk ((((((((((v.setCell ⟨Y, 0, none⟩ y0).setCell ⟨Y, 1, none⟩ y1).setCell ⟨Y, 2, none⟩ y2).setCell ⟨Y, 3, none⟩ y3).setCell ⟨Y, 4, none⟩ y4).setCell ⟨Y, 5, none⟩ y5).setCell ⟨Y, 6, none⟩ y6).setCell ⟨Y, 7, none⟩ y7).setCell ⟨Y, 8, none⟩ y8).setCell ⟨Y, 9, none⟩ y9) Y 138 #[y0, y1, y2, y3, y4, y5, y6, y7, y8, y9] := (show #[y0, y1, y2, y3, y4, y5, y6, y7, y8, x9].setIfInBounds 9 y9 = #[y0, y1, y2, y3, y4, y5, y6, y7, y8, y9] from rfl) ▸ h8.set 9 y9
  refine ⟨_, rfl, h9, ?_⟩
  exact (((((((((((Below.refl Y v).setCell (p := ⟨Y, 0, none⟩) l _).setCell (p := ⟨Y, 1, none⟩) l _).setCell (p := ⟨Y, 2, none⟩) l _).setCell (p := ⟨Y, 3, none⟩) l _).setCell (p := ⟨Y, 4, none⟩) l _).setCell (p := ⟨Y, 5, none⟩) l _).setCell (p := ⟨Y, 6, none⟩) l _).setCell (p := ⟨Y, 7, none⟩) l _).setCell (p := ⟨Y, 8, none⟩) l _).setCell (p := ⟨Y, 9, none⟩) l _)
set_option maxHeartbeats 4000000 in
set_option maxRecDepth 100000 in
theorem ask_event {g n cap : Nat} {a b c : Int} {k : ByteArray} {p : Option Addr} {cp : Nat} {L : List Fld} (T : Blk w t 98 (tel nodes to id sq (.slice (some ⟨g, 0, none⟩) n cap) rv)) (hn : 0 < n) (hid : 1 ≤ id) (hsq : 0 ≤ sq ∧ sq ≤ 549755813888)
    (c0 : w.cell? ⟨g, 0, none⟩ = some (.int .i64 a)) (c1 : w.cell? ⟨g, 1, none⟩ = some (.int .i64 b)) (c2 : w.cell? ⟨g, 2, none⟩ = some (.int .i64 c)) (c3 : w.cell? ⟨g, 3, none⟩ = some (.string k)) (c4 : w.cell? ⟨g, 4, none⟩ = some (.slice p L.length cp)) (hg : g < w.heap.size)
    (WR : ∀ W, Below w.heap.size w W → Calls Try.prog 67 #[cmdV 2 id (sq + 1) c k (.slice p L.length cp)] W fun e w' => e = .returned (.tuple #[.string (askS id (sq + 1) c k L), .int .i64 0]) ∧ Below W.heap.size W w') :
    Calls Try.prog 34 #[.pointer (some ⟨t, 0, none⟩)] w fun e w' => e = .returned (.tuple #[askV to (askS id (sq + 1) c k L) ⟨#[]⟩ 0 0, .bool true]) ∧ Below w.heap.size w w' := by
  obtain ⟨w1, hw1, K1, B1, hs1⟩ : ∃ w1, w1 = w.alloc (.cells #[.int .i64 0, .string ⟨#[]⟩, .string ⟨#[]⟩, .int .i64 0, .int .i64 0] 63) ∧ Blk w1 w.heap.size 63 #[.int .i64 0, .string ⟨#[]⟩, .string ⟨#[]⟩, .int .i64 0, .int .i64 0] ∧ Below w.heap.size w w1 ∧ w1.heap.size = w.heap.size + 1 :=
    ⟨_, rfl, heap_alloc_new w _, (Below.refl w.heap.size w).alloc (Nat.le_refl _) _, by simp⟩
  obtain ⟨w2, hw2, K2, B2, hs2⟩ : ∃ w2, w2 = w1.alloc (.cells #[.int .i64 1, .int .i64 0, .int .i64 0, .int .i64 0, .string ⟨#[]⟩, .slice none 0 0, .int .i64 0, .string ⟨#[]⟩, .string ⟨#[]⟩, .int .i64 0] 138) ∧ Blk w2 w1.heap.size 138 #[.int .i64 1, .int .i64 0, .int .i64 0, .int .i64 0, .string ⟨#[]⟩, .slice none 0 0, .int .i64 0, .string ⟨#[]⟩, .string ⟨#[]⟩, .int .i64 0] ∧ Below w1.heap.size w1 w2 ∧ w2.heap.size = w1.heap.size + 1 :=
    ⟨_, rfl, heap_alloc_new w1 _, (Below.refl w1.heap.size w1).alloc (Nat.le_refl _) _, by simp⟩
  have BB0 : Below w.heap.size w w2 := B1.trans (B2.mono (by omega))
  have LF := Lib.hid (left_any (T.below B1))
  have OP := Lib.hid (open_any ((T.below B1).below B2))
  rw [show (id != 0) = true by rw [bne_iff_ne]; omega] at OP
  have T2 := Lib.hid ((T.below B1).below B2)
  have K12 := Lib.hid (K1.below B2)
  have K2h := Lib.hid (show Blk w2 (w.heap.size + 1) 138 _ from hs1 ▸ K2)
  have BB := Lib.hid BB0
  have q : ∀ {i : Nat} {v : Value}, w.cell? ⟨g, i, none⟩ = some v → w2.drew.cell? ⟨g, i, none⟩ = some v := fun {i v} hc => by
    show w2.cell? ⟨g, i, none⟩ = some v
    rw [BB0.cell (p := ⟨g, i, none⟩) hg]; exact hc
  have d0 := q c0
  have d1 := q c1
  have d2 := q c2
  have d3 := q c3
  have d4 := q c4
  have WRh := Lib.hid WR
  have NU := Lib.hid (fun W => numbered_any a b c id sq k p L.length cp W (by omega))
  have hn1 : ((n : Int) == 0) = false := by rw [beq_eq_false_iff_ne]; omega
  have hn2 : (0 : Int) < (n : Int) := by omega
  have hn3 : (n : Int) ≤ 9223372036854775807 ∨ True := .inr trivial
  have W1 := Lib.hid hw1
  have W2 := Lib.hid hw2
  have hlt := T.lt
  clear T K1 K2 B1 B2 hw1 hw2 q c0 c1 c2 c3 c4 WR BB0 hn3
  unfold askV
  unfold cmdV at WRh
  unfold evV at NU
  generalize askS id (sq + 1) c k L = S at *
  generalize L.length = m at *
  generalize hy : w.heap.size = Y at *
  have t4 : w2.drew.cell? ⟨t, 4, none⟩ = some (.slice (some ⟨g, 0, none⟩) n cap) := T2.out.cell 4
  have t2 : w2.drew.cell? ⟨t, 2, none⟩ = some (.int .i64 id) := T2.out.cell 2
  have t3 : w2.drew.cell? ⟨t, 3, none⟩ = some (.int .i64 sq) := T2.out.cell 3
  go_enter Try.func34, Try.ntmps34
  go_wp2_with fail
  rw [← W1.out]
  refine LF.out.mono ?_
  rintro e w1' ⟨rfl, rfl⟩
  go_wp2_with fail
  rw [← W2.out]
  refine OP.out.mono ?_
  rintro e w2' ⟨rfl, rfl⟩
  go_wp2_with fail
  go_region_law (go_simp; go_at_call 42; refine (NU.out _).mono ?_; rintro r9 v2 ⟨rfl, b2⟩; have B4 := Lib.hid (show Below w2.heap.size w2 v2 from (Below.refl w2.heap.size w2).drew.trans b2); have K4 := B4.out; have KV := K2h.out.below K4; have z0 : v2.cell? ⟨Y + 1, 0, none⟩ = some (.int .i64 1) := KV.cell 0; have z1 : v2.cell? ⟨Y + 1, 1, none⟩ = some (.int .i64 0) := KV.cell 1; have z2 : v2.cell? ⟨Y + 1, 2, none⟩ = some (.int .i64 0) := KV.cell 2; have z3 : v2.cell? ⟨Y + 1, 3, none⟩ = some (.int .i64 0) := KV.cell 3; have z4 : v2.cell? ⟨Y + 1, 4, none⟩ = some (.string ⟨#[]⟩) := KV.cell 4; have z5 : v2.cell? ⟨Y + 1, 5, none⟩ = some (.slice none 0 0) := KV.cell 5; have z6 : v2.cell? ⟨Y + 1, 6, none⟩ = some (.int .i64 0) := KV.cell 6; have z7 : v2.cell? ⟨Y + 1, 7, none⟩ = some (.string ⟨#[]⟩) := KV.cell 7; have z8 : v2.cell? ⟨Y + 1, 8, none⟩ = some (.string ⟨#[]⟩) := KV.cell 8; have z9 : v2.cell? ⟨Y + 1, 9, none⟩ = some (.int .i64 0) := KV.cell 9; have fz : ∀ i, v2.frozen? ⟨Y + 1, i, none⟩ = false := KV.free; have KVh := Lib.hid KV; clear b2 K4 KV)
  all_goals (
    obtain ⟨W5, hW5, K5, b5⟩ := set10 KVh.out (.int .i64 2) (.int .i64 id) (.int .i64 (sq + 1)) (.int .i64 c) (.string k) (.slice p m cp) (.int .i64 0) (.string ⟨#[]⟩) (.string ⟨#[]⟩) (.int .i64 0)
    rw [← hW5]
    have hs3 := B4.out.size
    have BW : Below Y w W5 := (BB.out.trans (B4.out.mono (by omega))).trans (b5.mono (by omega))
    have T5 := Lib.hid ((T2.out.below B4.out).at_ b5 (by omega))
    have K15 := Lib.hid ((K12.out.below B4.out).at_ b5 (by omega))
    have WR5 := Lib.hid (WRh.out W5 BW)
    have BWh := Lib.hid BW
    have e0 : W5.cell? ⟨Y + 1, 0, none⟩ = some (.int .i64 2) := K5.cell 0
    have e1 : W5.cell? ⟨Y + 1, 1, none⟩ = some (.int .i64 id) := K5.cell 1
    have e2 : W5.cell? ⟨Y + 1, 2, none⟩ = some (.int .i64 (sq + 1)) := K5.cell 2
    have e3 : W5.cell? ⟨Y + 1, 3, none⟩ = some (.int .i64 c) := K5.cell 3
    have e4 : W5.cell? ⟨Y + 1, 4, none⟩ = some (.string k) := K5.cell 4
    have e5 : W5.cell? ⟨Y + 1, 5, none⟩ = some (.slice p m cp) := K5.cell 5
    have e6 : W5.cell? ⟨Y + 1, 6, none⟩ = some (.int .i64 0) := K5.cell 6
    have e7 : W5.cell? ⟨Y + 1, 7, none⟩ = some (.string ⟨#[]⟩) := K5.cell 7
    have e8 : W5.cell? ⟨Y + 1, 8, none⟩ = some (.string ⟨#[]⟩) := K5.cell 8
    have e9 : W5.cell? ⟨Y + 1, 9, none⟩ = some (.int .i64 0) := K5.cell 9
    have hs5 := BW.size
    clear z0 z1 z2 z3 z4 z5 z6 z7 z8 z9 fz KVh B4 d0 d1 d2 d3 d4 t2 t3 t4 K5 b5 hW5 BW W1 W2 T2 K12 K2h BB
    go_wp2_with fail
    refine WR5.out.mono ?_
    rintro e w3 ⟨rfl, b3⟩
    have c1 : w3.cell? ⟨t, 1, none⟩ = some (.int .i64 to) := (T5.out.below b3).cell 1
    have z0 : w3.cell? ⟨Y, 0, none⟩ = some (.int .i64 0) := (K15.out.below b3).cell 0
    have z1 : w3.cell? ⟨Y, 1, none⟩ = some (.string ⟨#[]⟩) := (K15.out.below b3).cell 1
    have z2 : w3.cell? ⟨Y, 2, none⟩ = some (.string ⟨#[]⟩) := (K15.out.below b3).cell 2
    have z3 : w3.cell? ⟨Y, 3, none⟩ = some (.int .i64 0) := (K15.out.below b3).cell 3
    have z4 : w3.cell? ⟨Y, 4, none⟩ = some (.int .i64 0) := (K15.out.below b3).cell 4
    have fz : ∀ i, w3.frozen? ⟨Y, i, none⟩ = false := (K15.out.below b3).free
    have B3 := Lib.hid (BWh.out.trans (b3.mono (by omega)))
    clear b3 e0 e1 e2 e3 e4 e5 e6 e7 e8 e9 T5 K15 BWh WR5
    go_wp2_with fail
    refine bodyPost_ret (by simp [results, Try.results34, go_sem, z0, z1, z2, z3, z4]; try rfl) rfl ?_
    exact ⟨rfl, below5 B3.out (Nat.le_refl _) _ _ _ _ _⟩)
end
end Go.Proofs.Ytbghjcfepjbppaa
/-
  THE PAGE's EXAMPLE.
-/
namespace Go.Proofs.Ytbghjcfepjbppaa
open Go.RowKit
theorem aw_chk : chkB 1 1 0 ⟨#[97]⟩ [] = true := by decide +kernel
theorem aw_chk4 : chkB 4 1 0 ⟨#[97]⟩ [] = true := by decide +kernel
theorem aw_txt : askS 4 (0 + 1) 0 ⟨#[97]⟩ [] = ⟨#[2, 4, 1, 0, 1, 97, 0]⟩ := by decide +kernel
/-- what the page's first event leaves -/
def AwA (w : World) (t : Nat) (W : World) (id : Int) (to : Int) : Prop :=
  ∃ g cap rv p cp, Blk W t 98 (tel 2 to id 0 (.slice (some ⟨g, 0, none⟩) 1 cap) rv) ∧ t = w.heap.size ∧ t < g ∧ g < W.heap.size ∧ Below w.heap.size w W ∧
    W.cell? ⟨g, 0, none⟩ = some (.int .i64 0) ∧ W.cell? ⟨g, 1, none⟩ = some (.int .i64 0) ∧ W.cell? ⟨g, 2, none⟩ = some (.int .i64 0) ∧ W.cell? ⟨g, 3, none⟩ = some (.string ⟨#[97]⟩) ∧ W.cell? ⟨g, 4, none⟩ = some (.slice p 0 cp)
theorem AwA.set {w : World} {t : Nat} {W W' : World} {id to id' to' : Int} (h : AwA w t W id to) (T : ∀ g cap rv, Blk W t 98 (tel 2 to id 0 (.slice (some ⟨g, 0, none⟩) 1 cap) rv) → Blk W' t 98 (tel 2 to' id' 0 (.slice (some ⟨g, 0, none⟩) 1 cap) rv)) (f : Fr W W' (fun q => q = t)) : AwA w t W' id' to' := by
  obtain ⟨g, cap, rv, p, cp, hT, ht, hg, hgs, hb, c0, c1, c2, c3, c4⟩ := h
  exact ⟨g, cap, rv, p, cp, T _ _ _ hT, ht, hg, Nat.lt_of_lt_of_le hgs f.size, hb.trans (f.below (fun q hq => by omega) hb.size), f.cell hgs (by omega) c0, f.cell hgs (by omega) c1, f.cell hgs (by omega) c2, f.cell hgs (by omega) c3, f.cell hgs (by omega) c4⟩
theorem AwA.next {w : World} {t : Nat} {W W' : World} {id to : Int} (h : AwA w t W id to) (b : Below W.heap.size W W') : AwA w t W' id to := by
  have hlt : ∀ g cap rv, Blk W t 98 (tel 2 to id 0 (.slice (some ⟨g, 0, none⟩) 1 cap) rv) → Blk W' t 98 (tel 2 to id 0 (.slice (some ⟨g, 0, none⟩) 1 cap) rv) := fun g cap rv hT => hT.below b
  exact h.set hlt (Fr.of_below b _)
theorem aw_new (w : World) : Calls Try.prog 7 #[.int .i64 2] w fun e w' => e = .returned (.pointer (some ⟨w.heap.size, 0, none⟩)) ∧ Blk w' w.heap.size 98 (tel 2 0 0 0 (.slice none 0 0) (.slice none 0 0)) ∧ Below w.heap.size w w' := tel_new 2 (by decide) w
theorem aw_add {w0 w : World} (T : Blk w w0.heap.size 98 (tel 2 0 0 0 (.slice none 0 0) (.slice none 0 0))) (hb : Below w0.heap.size w0 w) :
    Calls Try.prog 11 #[.pointer (some ⟨w0.heap.size, 0, none⟩), evV 0 0 0 ⟨#[97]⟩ (.slice none 0 0)] w fun e w' => e = .returned (.int .i64 0) ∧ AwA w0 w0.heap.size w' 0 0 := by
  have hlt := T.lt
  refine (add_ok (B := w.heap.size) (L := []) (p := none) (cp := 0) (ua := none) (uc := 0) (n := 0) (cs := []) T hlt (Nat.le_refl _) (World.ownsRow_nil _ _ _ _) (by omega) ?_ ?_).mono ?_
  · intro W _
    have h := check_any 1 1 0 ⟨#[97]⟩ none 0 [] W (by simp) (by decide) (fun i hi => by simp at hi) (fun x hx => by cases hx)
    rw [aw_chk] at h
    exact h
  · intro W _
    exact copR_nil 0 0 0 ⟨#[97]⟩ (by decide) W
  · rintro e w' ⟨rfl, g, cap, p, cp, T', ho, hF, hp, f, _⟩
    have CA : ∀ i u, (encE 0 0 0 ⟨#[97]⟩ (.slice p ([] : List Fld).length cp))[i]? = some u → w'.cell? ⟨g, i, none⟩ = some u := fun i u hu => by
      rw [World.ownsRow.cellAt ho _ (by have := (List.getElem?_eq_some_iff.1 hu).1; simpa [encE] using this)]
      exact hu
    refine ⟨rfl, g, cap, _, p, cp, T', rfl, ?_, ?_, ?_, CA 0 _ rfl, CA 1 _ rfl, CA 2 _ rfl, CA 3 _ rfl, CA 4 _ rfl⟩
    · have := (World.ownsRow.lt ho g rfl).1; omega
    · exact (World.ownsRow.lt ho g rfl).2
    · refine hb.trans (f.below (fun q hq => ?_) hb.size)
      rcases hq with rfl | hq
      · exact Nat.le_refl _
      · simp [Value.ownBlock] at hq
theorem aw_ask0 {w0 w : World} {t : Nat} (h : AwA w0 t w 0 0) : Calls Try.prog 34 #[.pointer (some ⟨t, 0, none⟩)] w fun e w' => e = .returned (.tuple #[askV 0 ⟨#[1]⟩ ⟨#[]⟩ 0 0, .bool true]) ∧ AwA w0 t w' 0 0 ∧ Fr w w' (fun q => q = t) := by
  have h0 := h
  obtain ⟨g, cap, rv, p, cp, hT, _⟩ := h
  exact (ask_open hT (by omega)).mono fun e w' ⟨he, b⟩ => ⟨he, h0.next b, Fr.of_below b _⟩
theorem aw_told {w0 w : World} {t : Nat} (h : AwA w0 t w 0 0) (lead : Int) : Calls Try.prog 13 #[.pointer (some ⟨t, 0, none⟩), .agg #[.int .i64 0, .int .i64 4], .int .i64 lead] w fun e w' => e = .returned (.tuple #[]) ∧ AwA w0 t w' 4 0 ∧ Fr w w' (fun q => q = t) := by
  have h0 := h
  obtain ⟨g, cap, rv, p, cp, hT, ht, hg, hgs, hb, c0, c1, c2, c3, c4⟩ := h
  refine (told_opens (m := 4) (lead := lead) hT (by omega) (by omega)).mono fun e w' ⟨he, T', f⟩ => ⟨he, ?_, f⟩
  exact ⟨g, cap, rv, p, cp, T', ht, hg, Nat.lt_of_lt_of_le hgs f.size, hb.trans (f.below (fun q hq => by omega) hb.size), f.cell hgs (by omega) c0, f.cell hgs (by omega) c1, f.cell hgs (by omega) c2, f.cell hgs (by omega) c3, f.cell hgs (by omega) c4⟩
theorem aw_late {w0 w : World} {t : Nat} (h : AwA w0 t w 4 0) : Calls Try.prog 15 #[.pointer (some ⟨t, 0, none⟩)] w fun e w' => e = .returned (.tuple #[]) ∧ AwA w0 t w' 4 1 ∧ Fr w w' (fun q => q = t) := by
  obtain ⟨g, cap, rv, p, cp, hT, ht, hg, hgs, hb, c0, c1, c2, c3, c4⟩ := h
  refine (late_any hT (by omega) (by omega)).mono fun e w' ⟨he, T', f⟩ => ⟨he, ?_, f⟩
  exact ⟨g, cap, rv, p, cp, T', ht, hg, Nat.lt_of_lt_of_le hgs f.size, hb.trans (f.below (fun q hq => by omega) hb.size), f.cell hgs (by omega) c0, f.cell hgs (by omega) c1, f.cell hgs (by omega) c2, f.cell hgs (by omega) c3, f.cell hgs (by omega) c4⟩
theorem aw_ask {w0 w : World} {t : Nat} {to : Int} (h : AwA w0 t w 4 to) : Calls Try.prog 34 #[.pointer (some ⟨t, 0, none⟩)] w fun e w' => e = .returned (.tuple #[askV to ⟨#[2, 4, 1, 0, 1, 97, 0]⟩ ⟨#[]⟩ 0 0, .bool true]) ∧ AwA w0 t w' 4 to ∧ Fr w w' (fun q => q = t) := by
  have h0 := h
  obtain ⟨g, cap, rv, p, cp, hT, ht, hg, hgs, hb, c0, c1, c2, c3, c4⟩ := h
  have A := ask_event (L := []) hT (by omega) (by omega) (by omega) c0 c1 c2 c3 c4 hgs (fun W _ => write_event 4 (0 + 1) 0 ⟨#[97]⟩ p cp [] W (by simp) (by decide) (fun i hi => by simp at hi) (fun x hx => by cases hx) (fun x hx => by cases hx) (by omega) (by omega) aw_chk4 (by decide +kernel))
  rw [aw_txt] at A
  exact A.mono fun e w' ⟨he, b⟩ => ⟨he, h0.next b, Fr.of_below b _⟩
set_option maxHeartbeats 2000000 in
set_option maxRecDepth 100000 in
theorem awake_any (w : World) : Calls Try.prog 8 #[] w fun e w' => e = .returned (.bool true) ∧ Below w.heap.size w w' := by
  have N := Lib.hid (aw_new w)
  have A1 := Lib.hid (fun W T b => aw_add (w0 := w) (w := W) T b)
  have A2 := Lib.hid (fun W (h : AwA w w.heap.size W 0 0) => aw_ask0 h)
  have A3 := Lib.hid (fun W (h : AwA w w.heap.size W 0 0) => aw_told h (-1))
  have A4 := Lib.hid (fun W (h : AwA w w.heap.size W 4 0) => aw_ask h)
  have A5 := Lib.hid (fun W (h : AwA w w.heap.size W 4 0) => aw_late h)
  have A6 := Lib.hid (fun W (h : AwA w w.heap.size W 4 1) => aw_ask h)
  have NX := Lib.hid (fun (W W' : World) (id to : Int) (h : AwA w w.heap.size W id to) (b : Below W.heap.size W W') => h.next b)
  have SZ := Lib.hid (fun (W : World) (id to : Int) (h : AwA w w.heap.size W id to) => (show w.heap.size < W.heap.size ∧ Below w.heap.size w W from ⟨by obtain ⟨g, _, _, _, _, _, _, h1, h2, _⟩ := h; omega, by obtain ⟨g, _, _, _, _, _, _, _, _, h3, _⟩ := h; exact h3⟩))
  unfold evV at A1
  unfold askV at A2 A4 A6
  generalize hAw : AwA w w.heap.size = M at *
  clear hAw
  generalize hy : w.heap.size = Y at *
  go_enter Try.func8, Try.ntmps8
  go_wp2_with fail
  refine N.out.mono ?_
  rintro e w1 ⟨rfl, T1, b1⟩
  have T1 := Lib.hid T1
  have b1 := Lib.hid b1
  go_wp2_with fail
  refine (A1.out _ T1.out b1.out).mono ?_
  rintro e w2 ⟨rfl, m2⟩
  clear T1 b1
  go_wp2_with fail
  refine (A2.out _ m2).mono ?_
  rintro e w3 ⟨rfl, m3, _⟩
  clear m2
  go_wp2_with fail
  have al := fun (W : World) o => (Below.refl W.heap.size W).alloc (Nat.le_refl _) o
  obtain ⟨W3, hW3, M3, X3⟩ : ∃ W3, W3 = w3.alloc (.cells #[.int .i64 0, .string ⟨#[1]⟩, .string ⟨#[]⟩, .int .i64 0, .int .i64 0] 63) ∧ M W3 0 0 ∧ Blk W3 w3.heap.size 63 #[.int .i64 0, .string ⟨#[1]⟩, .string ⟨#[]⟩, .int .i64 0, .int .i64 0] := ⟨_, rfl, NX.out _ _ _ _ m3 (al _ _), Blk.new _ _ _⟩
  rw [← hW3]
  have Y3 : w3.heap.size ≠ Y := by have := (SZ.out _ _ _ m3).1; omega
  have X3 := Lib.hid X3
  generalize w3.heap.size = y3 at *
  clear hW3 m3
  refine (A3.out _ M3).mono ?_
  rintro e w4 ⟨rfl, m4, f4⟩
  have X4 := Lib.hid (X3.out.fr f4 Y3)
  clear X3 f4 M3
  go_wp2_with fail
  refine (A4.out _ m4).mono ?_
  rintro e w5 ⟨rfl, m5, f5⟩
  have X5 := Lib.hid (X4.out.fr f5 Y3)
  clear X4 f5 m4
  go_wp2_with fail
  obtain ⟨W5, hW5, M5, Z5, b5⟩ : ∃ W5, W5 = w5.alloc (.cells #[.int .i64 0, .string ⟨#[2, 4, 1, 0, 1, 97, 0]⟩, .string ⟨#[]⟩, .int .i64 0, .int .i64 0] 63) ∧ M W5 4 0 ∧ Blk W5 w5.heap.size 63 #[.int .i64 0, .string ⟨#[2, 4, 1, 0, 1, 97, 0]⟩, .string ⟨#[]⟩, .int .i64 0, .int .i64 0] ∧ Below w5.heap.size w5 W5 := ⟨_, rfl, NX.out _ _ _ _ m5 (al _ _), Blk.new _ _ _, al _ _⟩
  rw [← hW5]
  have X5 := Lib.hid (X5.out.below b5)
  have Y5 : w5.heap.size ≠ Y := by have := (SZ.out _ _ _ m5).1; omega
  have Z5 := Lib.hid Z5
  clear hW5 m5 b5
  generalize w5.heap.size = y5 at *
  refine (A5.out _ M5).mono ?_
  rintro e w6 ⟨rfl, m6, f6⟩
  have X6 := Lib.hid (X5.out.fr f6 Y3)
  have Z6 := Lib.hid (Z5.out.fr f6 Y5)
  clear X5 Z5 f6 M5
  go_wp2_with fail
  refine (A6.out _ m6).mono ?_
  rintro e w7 ⟨rfl, m7, f7⟩
  have X7 := Lib.hid (X6.out.fr f7 Y3)
  have Z7 := Lib.hid (Z6.out.fr f7 Y5)
  clear X6 Z6 f7 m6
  go_upto_region 8 with fail
  obtain ⟨W7, hW7, V7, b7⟩ : ∃ W7, W7 = w7.alloc (.cells #[.int .i64 1, .string ⟨#[2, 4, 1, 0, 1, 97, 0]⟩, .string ⟨#[]⟩, .int .i64 0, .int .i64 0] 63) ∧ Blk W7 w7.heap.size 63 #[.int .i64 1, .string ⟨#[2, 4, 1, 0, 1, 97, 0]⟩, .string ⟨#[]⟩, .int .i64 0, .int .i64 0] ∧ Below w7.heap.size w7 W7 := ⟨_, rfl, Blk.new _ _ _, al _ _⟩
  rw [← hW7]
  have x0 : W7.cell? ⟨y3, 0, none⟩ = some (.int .i64 0) := (X7.out.below b7).cell 0
  have x1 : W7.cell? ⟨y3, 1, none⟩ = some (.string ⟨#[1]⟩) := (X7.out.below b7).cell 1
  have z0 : W7.cell? ⟨y5, 0, none⟩ = some (.int .i64 0) := (Z7.out.below b7).cell 0
  have z1 : W7.cell? ⟨y5, 1, none⟩ = some (.string ⟨#[2, 4, 1, 0, 1, 97, 0]⟩) := (Z7.out.below b7).cell 1
  have v0 : W7.cell? ⟨w7.heap.size, 0, none⟩ = some (.int .i64 1) := V7.cell 0
  have v1 : W7.cell? ⟨w7.heap.size, 1, none⟩ = some (.string ⟨#[2, 4, 1, 0, 1, 97, 0]⟩) := V7.cell 1
  have FIN := Lib.hid (show Below Y w W7 from (SZ.out _ _ _ (NX.out _ _ _ _ m7 b7)).2)
  clear V7 X7 Z7 b7 m7 hW7 N A1 A2 A3 A4 A5 A6 NX SZ al
  generalize w7.heap.size = y7 at *
  go_wp2_with fail
  go_ret
  exact ⟨rfl, FIN.out⟩
end Go.Proofs.Ytbghjcfepjbppaa
/-
  A READER IN MEMORY: NewReader, ahead, At, Gone, Ask, Late.
-/
namespace Go.Proofs.Ytbghjcfepjbppaa
open Go.RowKit
section
variable {A B C : World}
theorem bel_on (h : Below A.heap.size A B) (k : Below B.heap.size B C) : Below A.heap.size A C := h.trans (k.mono h.size)
theorem bel_al (h : Below A.heap.size A B) (o : Obj) : Below A.heap.size A (B.alloc o) := h.alloc h.size o
theorem bel_dr (h : Below A.heap.size A B) : Below A.heap.size A B.drew := h.drew
theorem bel_set (h : Below A.heap.size A B) {X : Nat} (hX : A.heap.size ≤ X) (i : Nat) (u : Value) : Below A.heap.size A (B.setCell ⟨X, i, none⟩ u) := h.setCell (p := ⟨X, i, none⟩) hX u
end
/-- a reader's cells -/
def rdr (nodes to : Int) (nm : ByteArray) (most at_ gone : Int) (gv : Value) : Array Value := #[.int .i64 nodes, .int .i64 to, .string nm, .int .i64 most, .int .i64 at_, .int .i64 gone, gv]
def mayR (nodes : Int) (nm : ByteArray) (most : Int) : Bool := manyB nodes && (wordB nm && decide (1 ≤ most))
set_option maxHeartbeats 1000000 in
set_option maxRecDepth 100000 in
theorem rdr_newN (nodes : Int) (nm : ByteArray) (most : Int) (hk : nm.size ≤ 9223372036854775807) (h : mayR nodes nm most = false) (w : World) : Calls Try.prog 17 #[.int .i64 nodes, .string nm, .int .i64 most] w fun e w' => e = .returned (.pointer none) ∧ w = w' := by
  have M := many_any nodes
  have W := word_any nm hk
  unfold mayR at h
  generalize manyB nodes = b1 at *
  generalize wordB nm = b2 at *
  cases b1
  · go_enter Try.func17, Try.ntmps17
    go_wp2_with fail
    refine (M _).mono ?_
    rintro e w1 ⟨rfl, rfl⟩
    go_wp2_with fail
    go_ret
    exact ⟨rfl, rfl⟩
  · cases b2
    · go_enter Try.func17, Try.ntmps17
      go_wp2_with fail
      refine (M _).mono ?_
      rintro e w1 ⟨rfl, rfl⟩
      go_wp2_with fail
      refine (W _).mono ?_
      rintro e w1 ⟨rfl, rfl⟩
      go_wp2_with fail
      go_ret
      exact ⟨rfl, rfl⟩
    · have hm : most < 1 := by
        simp only [Bool.true_and, decide_eq_false_iff_not] at h
        omega
      clear h
      go_enter Try.func17, Try.ntmps17
      go_wp2_with fail
      refine (M _).mono ?_
      rintro e w1 ⟨rfl, rfl⟩
      go_wp2_with fail
      refine (W _).mono ?_
      rintro e w1 ⟨rfl, rfl⟩
      go_wp2_with fail
      go_ret
      exact ⟨rfl, rfl⟩
set_option maxHeartbeats 1000000 in
set_option maxRecDepth 100000 in
theorem rdr_new (nodes : Int) (nm : ByteArray) (most : Int) (h : mayR nodes nm most = true) (w : World) : Calls Try.prog 17 #[.int .i64 nodes, .string nm, .int .i64 most] w fun e w' => ∃ t, e = .returned (.pointer (some ⟨t, 0, none⟩)) ∧ w.heap.size ≤ t ∧ Blk w' t 119 (rdr nodes 0 nm most 0 0 (.slice none 0 0)) ∧ Below w.heap.size w w' := by
  have M := many_any nodes
  unfold mayR at h
  simp only [Bool.and_eq_true, decide_eq_true_eq] at h
  obtain ⟨h1, h2, h3⟩ := h
  have hs := wordB_size h2
  have W := word_any nm (by omega)
  rw [h1] at M
  rw [h2] at W
  have SC := Lib.hid (fun W => str_clone nm W (by omega))
  have hm : ¬ most < 1 := by omega
  have FIN := Lib.hid (fun (w1 : World) (b : Below w.heap.size w w1) => show Blk (w1.alloc (.cells (rdr nodes 0 nm most 0 0 (.slice none 0 0)) 119)) w1.heap.size 119 (rdr nodes 0 nm most 0 0 (.slice none 0 0)) ∧ Below w.heap.size w (w1.alloc (.cells (rdr nodes 0 nm most 0 0 (.slice none 0 0)) 119)) from ⟨Blk.new _ _ _, b.alloc b.size _⟩)
  clear h1 h2 hs
  go_enter Try.func17, Try.ntmps17
  go_wp2_with fail
  refine (M _).mono ?_
  rintro e w1 ⟨rfl, rfl⟩
  go_wp2_with fail
  refine (W _).mono ?_
  rintro e w1 ⟨rfl, rfl⟩
  go_wp2_with fail
  refine (SC.out _).mono ?_
  rintro e w2 ⟨rfl, b2⟩
  have B2 := Lib.hid b2
  clear b2
  go_wp2_with fail
  go_ret
  exact ⟨_, rfl, B2.out.size, FIN.out _ B2.out⟩
section
variable {w : World} {t : Nat} {nodes to most at_ gone : Int} {nm : ByteArray} {gv : Value}
theorem rat_any (T : Blk w t 119 (rdr nodes to nm most at_ gone gv)) : Calls Try.prog 24 #[.pointer (some ⟨t, 0, none⟩)] w fun e w' => e = .returned (.int .i64 at_) ∧ w = w' := by
  have c4 : w.cell? ⟨t, 4, none⟩ = some (.int .i64 at_) := T.cell 4
  clear T
  go_enter Try.func24, Try.ntmps24
  go_wp2_with fail
  go_ret
  exact ⟨rfl, rfl⟩
theorem rgone_any (T : Blk w t 119 (rdr nodes to nm most at_ gone gv)) : Calls Try.prog 25 #[.pointer (some ⟨t, 0, none⟩)] w fun e w' => e = .returned (.int .i64 gone) ∧ w = w' := by
  have c5 : w.cell? ⟨t, 5, none⟩ = some (.int .i64 gone) := T.cell 5
  clear T
  go_enter Try.func25, Try.ntmps25
  go_wp2_with fail
  go_ret
  exact ⟨rfl, rfl⟩
def aheadN (at_ n : Int) : Int := if n < at_ then -1 else n - at_
theorem ahead_any (T : Blk w t 119 (rdr nodes to nm most at_ gone gv)) (n : Int) (ha : 0 ≤ at_) (hn : n ≤ 9223372036854775807) : Calls Try.prog 54 #[.pointer (some ⟨t, 0, none⟩), .int .i64 n] w fun e w' => e = .returned (.int .i64 (aheadN at_ n)) ∧ w = w' := by
  have c4 : w.cell? ⟨t, 4, none⟩ = some (.int .i64 at_) := T.cell 4
  unfold aheadN
  clear T
  by_cases h : n < at_
  · rw [if_pos h]
    go_enter Try.func54, Try.ntmps54
    go_wp2_with fail
    go_ret
    exact ⟨rfl, rfl⟩
  · rw [if_neg h]
    have hd : decide (n < at_) = false := by simp; omega
    have hw : wrap64 (n - at_) = n - at_ := by unfold wrap64; omega
    go_enter Try.func54, Try.ntmps54
    go_wp2_with fail
    go_ret
    exact ⟨rfl, rfl⟩
theorem rlate_any (T : Blk w t 119 (rdr nodes to nm most at_ gone gv)) (ht : 0 ≤ to ∧ to ≤ 100) (hn : nodes ≤ 100) :
    Calls Try.prog 22 #[.pointer (some ⟨t, 0, none⟩)] w fun e w' => e = .returned (.tuple #[]) ∧ Blk w' t 119 (rdr nodes (nextN to nodes) nm most at_ gone gv) ∧ Fr w w' (fun q => q = t) := by
  have NX := Lib.hid (next_any T rfl rfl ht hn)
  clear T
  go_enter Try.func22, Try.ntmps22
  go_wp2_with fail
  refine NX.out.mono ?_
  rintro e w1 ⟨rfl, T1, f1⟩
  have T1 := Lib.hid T1
  have f1 := Lib.hid f1
  go_wp2_with fail
  go_end0
  exact ⟨rfl, T1.out, f1.out⟩
set_option maxHeartbeats 4000000 in
set_option maxRecDepth 100000 in
theorem rask_any (T : Blk w t 119 (rdr nodes to nm most at_ gone gv)) (hs : nm.size ≤ 281474976710656) : Calls Try.prog 23 #[.pointer (some ⟨t, 0, none⟩)] w fun e w' => e = .returned (.tuple #[askV to ⟨#[]⟩ nm at_ most, .bool true]) ∧ Below w.heap.size w w' := by
  obtain ⟨w1, hw1, K1, B1, hs1⟩ : ∃ w1, w1 = w.alloc (.cells #[.int .i64 0, .string ⟨#[]⟩, .string ⟨#[]⟩, .int .i64 0, .int .i64 0] 63) ∧ Blk w1 w.heap.size 63 #[.int .i64 0, .string ⟨#[]⟩, .string ⟨#[]⟩, .int .i64 0, .int .i64 0] ∧ Below w.heap.size w w1 ∧ w1.heap.size = w.heap.size + 1 :=
    ⟨_, rfl, heap_alloc_new w _, (Below.refl w.heap.size w).alloc (Nat.le_refl _) _, by simp⟩
  have W1 := Lib.hid hw1
  have SO : Hid (∀ v, Below w.heap.size w v → v.cell? ⟨t, 1, none⟩ = some (.int .i64 to) ∧ v.cell? ⟨t, 2, none⟩ = some (.string nm) ∧ v.cell? ⟨t, 3, none⟩ = some (.int .i64 most) ∧ v.cell? ⟨t, 4, none⟩ = some (.int .i64 at_) ∧ Below w.heap.size w v) := Lib.hid fun v b => ⟨(T.below b).cell 1, (T.below b).cell 2, (T.below b).cell 3, (T.below b).cell 4, b⟩
  have K1h := Lib.hid (show Blk w1.drew w.heap.size 63 #[.int .i64 0, .string ⟨#[]⟩, .string ⟨#[]⟩, .int .i64 0, .int .i64 0] from K1)
  have BD := bel_dr B1
  have S1 := SO.out _ BD
  have z0 : w1.drew.cell? ⟨w.heap.size, 0, none⟩ = some (.int .i64 0) := K1.cell 0
  have z1 : w1.drew.cell? ⟨w.heap.size, 1, none⟩ = some (.string ⟨#[]⟩) := K1.cell 1
  have z2 : w1.drew.cell? ⟨w.heap.size, 2, none⟩ = some (.string ⟨#[]⟩) := K1.cell 2
  have z3 : w1.drew.cell? ⟨w.heap.size, 3, none⟩ = some (.int .i64 0) := K1.cell 3
  have z4 : w1.drew.cell? ⟨w.heap.size, 4, none⟩ = some (.int .i64 0) := K1.cell 4
  have hz1 : w.heap.size < w1.drew.heap.size := by show w.heap.size < w1.heap.size; omega
  have SC := Lib.hid (fun W => str_clone nm W hs)
  clear T K1 B1 hw1 hs1
  unfold askV
  go_enter Try.func23, Try.ntmps23
  go_wp2_with fail
  rw [← W1.out]
  go_region_held3 (fun w' => w'.cell? ⟨t, 1, none⟩ = some (.int .i64 to) ∧ w'.cell? ⟨t, 2, none⟩ = some (.string nm) ∧ w'.cell? ⟨t, 3, none⟩ = some (.int .i64 most) ∧ w'.cell? ⟨t, 4, none⟩ = some (.int .i64 at_) ∧ Below w.heap.size w w')
    (first | (with_reducible exact S1) | (refine SO.out _ ?_; (repeat (with_reducible first | assumption | exact Below.refl _ _ | refine bel_dr ?_ | refine bel_al ?_ _ | refine bel_set ?_ (Nat.le_refl _) _ _)); done))
    ((go_at_call 53; (with_reducible refine (SC.out _).mono ?_); rintro r w2 ⟨rfl, b2⟩; have f2 : Below w.heap.size w w2 := bel_on (by (repeat (with_reducible first | assumption | exact Below.refl _ _ | refine bel_dr ?_ | refine bel_al ?_ _))) b2; have KV := K1h.out.below b2; have z0 : w2.cell? ⟨w.heap.size, 0, none⟩ = some (.int .i64 0) := KV.cell 0; have z1 : w2.cell? ⟨w.heap.size, 1, none⟩ = some (.string ⟨#[]⟩) := KV.cell 1; have z2 : w2.cell? ⟨w.heap.size, 2, none⟩ = some (.string ⟨#[]⟩) := KV.cell 2; have z3 : w2.cell? ⟨w.heap.size, 3, none⟩ = some (.int .i64 0) := KV.cell 3; have z4 : w2.cell? ⟨w.heap.size, 4, none⟩ = some (.int .i64 0) := KV.cell 4; have fz : ∀ i, w2.frozen? ⟨w.heap.size, i, none⟩ = false := KV.free))
  all_goals (
    go_wp2_with fail
    refine bodyPost_ret (by simp [results, Try.results23, go_sem, z0, z1, z2, z3, z4]; try rfl) rfl ?_
    exact ⟨rfl, below5 f2 (Nat.le_refl _) _ _ _ _ _⟩)
end
end Go.Proofs.Ytbghjcfepjbppaa
/-
  slices.Clone of numbers, however many may be; a match and its number: client.got.
-/
namespace Go.Proofs.Ytbghjcfepjbppaa.Bk
open Go.RowKit
set_option maxHeartbeats 4000000 in
set_option maxRecDepth 100000 in
theorem clone_big {w : World} {a : Option Addr} {L : List Int} (c : Nat) (h : Nums w a L) (hl : L.length ≤ 17592186043904) : Calls Try.prog 79 #[.slice a L.length c] w (Cln w L) := by
  obtain ⟨i0, hi, hz0, hz1, hz2⟩ : ∃ i, Try.prog.info? 3 = some i ∧ i.zero = some (.int .i64 0) ∧ i.size = 1 ∧ i.bytes = 8 := by
    have h3 := info3
    cases e : Try.prog.info? 3 with
    | none => rw [e] at h3; cases h3
    | some i => rw [e] at h3; simp only [Option.map_some, Option.some.injEq, Prod.mk.injEq] at h3; exact ⟨i, rfl, h3.1, h3.2.1, h3.2.2⟩
  have q29 : ∀ (w : World) (a : Option Addr) (n c n' c' : Nat), (binOp .eql 55 (.slice a n c) (.slice none n' c')).run Try.prog w = .ok (.bool a.isNone) w := fun w a n c n' c' => Lib.run_eql_slice_nil w _ _ a n c n' c' Try.underlying55
  cases a with
  | none =>
    have hL : L = [] := by
      cases L with
      | nil => rfl
      | cons x r => obtain ⟨g, o, e, _⟩ := h 0 (by simp); cases e
    subst hL
    have FIN := Lib.hid (show Cln w [] (.returned (.slice none 0 0)) w from ⟨_, rfl, World.ownsRow_nil _ _ _ _, Below.refl _ _⟩)
    generalize Cln w [] = Q at *
    clear h
    go_enter Try.func79, Try.ntmps79
    go_wp2_with fail
    exact FIN.out
  | some ad =>
    obtain ⟨W1, hW1⟩ : ∃ W1, W1 = w.alloc (.cells #[] 3) := ⟨_, rfl⟩
    have O1 : W1.ownsRow w.heap.size 3 1 (.slice (some ⟨w.heap.size, 0, none⟩) 0 0) 0 [] := by rw [hW1]; exact World.ownsRow_made w #[] 0 (Nat.le_refl _) (Nat.zero_le _) rfl
    have b1 : Below w.heap.size w W1 := by rw [hW1]; exact (Below.refl _ w).alloc (Nat.le_refl _) _
    have G1 := h.next b1
    have N1 : ∀ j u, (L.map (Value.int .i64))[j]? = some u → W1.cell? (ad.add j) = some u := by
      intro j u hj
      rw [List.getElem?_map] at hj
      obtain ⟨x, hx, rfl⟩ := Option.map_eq_some_iff.1 hj
      obtain ⟨hjl, rfl⟩ := List.getElem?_eq_some_iff.1 hx
      obtain ⟨g, o, e, hg, ck⟩ := G1 j hjl
      cases e
      rw [show (⟨g, o, none⟩ : Addr).add j = ⟨g, o + j, none⟩ by unfold Addr.add; split <;> simp_all]
      exact ck
    have FIN : Hid (∀ v' w1, w1.ownsRow w.heap.size 3 1 v' (0 + L.length) ([] ++ L.map (Value.int .i64)) → W1.grownBy w1 (Value.slice (some ⟨w.heap.size, 0, none⟩) 0 0).ownBlock → Cln w L (.returned v') w1) := Lib.hid fun v' w1 ho hg => by
      rw [Nat.zero_add, List.nil_append] at ho
      exact ⟨v', rfl, ho, b1.trans ⟨hg.os, hg.tape, hg.output, hg.size, fun q hq => hg.block q (Nat.lt_of_lt_of_le hq b1.size) (fun e => absurd (show q = w.heap.size by simpa [Value.ownBlock] using e) (Nat.ne_of_lt hq))⟩⟩
    have hz : W1.heap.size = w.heap.size + 1 := by rw [hW1]; simp
    have HN := Lib.hid N1
    have HO := Lib.hid O1
    have HW := Lib.hid hW1
    have HL : Hid ((L.map (Value.int .i64)).length = L.length * 1) := Lib.hid (by simp)
    have H1 : Hid (∀ u ∈ L.map (Value.int .i64), u.oneCell' = true) := Lib.hid (fun u hu => by obtain ⟨x, _, rfl⟩ := List.mem_map.1 hu; rfl)
    have hl2 : (L.length : Int) ≤ 17592186043904 := by omega
    clear h O1 b1 G1 N1 hW1
    generalize L.map (Value.int .i64) = cl at *
    generalize L.length = n at *
    generalize Cln w L = Q at *
    go_enter Try.func79, Try.ntmps79
    go_wp2_with (at_builtin; rw [← HW.out]; refine wpList_append_own _ rfl _ _ 55 rfl w.heap.size 3 i0 _ 1 8 Try.underlying55 hi hz0 hz1 hz2 rfl (by decide) _ 0 [] rfl HO.out ad n c cl rfl HL.out HN.out H1.out (by unfold maxLen; omega) (by omega) (by omega) ?_; intro v' w1 ho hg2 _)
    all_goals exact FIN.out v' w1 ho hg2
end Go.Proofs.Ytbghjcfepjbppaa.Bk
namespace Go.Proofs.Ytbghjcfepjbppaa
open Go.RowKit
/-- what client.got answers -/
def GotR (w : World) (n : Int) (xs : List Int) (e : Ending) (w' : World) : Prop :=
  ∃ a' c', e = .returned (.agg #[.int .i64 n, .slice a' xs.length c']) ∧ Bk.Nums w' a' xs ∧ (∀ ad, a' = some ad → w.heap.size ≤ ad.block ∧ ad.block < w'.heap.size) ∧ Below w.heap.size w w'
theorem nums_fr {w w' : World} {a : Option Addr} {xs : List Int} {P : Nat → Prop} (h : Bk.Nums w a xs) (f : Fr w w' P) (hP : ∀ ad, a = some ad → ¬ P ad.block) : Bk.Nums w' a xs := fun i hi => by
  obtain ⟨g, o, e, hl, c⟩ := h i hi
  exact ⟨g, o, e, Nat.lt_of_lt_of_le hl f.size, f.cell hl (hP _ e) c⟩
set_option maxHeartbeats 2000000 in
set_option maxRecDepth 100000 in
theorem got_any {w : World} {a : Option Addr} {xs : List Int} (n : Int) (c : Nat) (h : Bk.Nums w a xs) (hl : xs.length ≤ 17592186043904) : Calls Try.prog 56 #[.int .i64 n, .agg #[.slice a xs.length c]] w (GotR w n xs) := by
  obtain ⟨w1, hw1, K1, Z1, B1, hs1⟩ : ∃ w1, w1 = (w.alloc (.cells #[.slice a xs.length c] 70)).alloc (.cells #[.int .i64 0, .slice none 0 0] 72) ∧ Blk w1 w.heap.size 70 #[.slice a xs.length c] ∧ Blk w1 (w.heap.size + 1) 72 #[.int .i64 0, .slice none 0 0] ∧ Below w.heap.size w w1 ∧ w1.heap.size = w.heap.size + 1 + 1 :=
    ⟨_, rfl, (Blk.new w 70 _).below ((Below.refl _ _).alloc (Nat.le_refl _) _), by have := Blk.new (w.alloc (.cells #[.slice a xs.length c] 70)) 72 #[.int .i64 0, .slice none 0 0]; simpa using this, ((Below.refl w.heap.size w).alloc (Nat.le_refl _) _).alloc (by simp) _, by simp⟩
  have W1 := Lib.hid hw1
  have CL := Lib.hid (Bk.clone_big c (h.next B1) hl)
  have END : Hid (∀ (w2 : World) (v' : Value), Bk.OwnN w2 w1.heap.size v' xs → Below w1.heap.size w1 w2 → ∃ a' c', v' = .slice a' xs.length c' ∧ w2.cell? ⟨w.heap.size + 1, 0, none⟩ = some (.int .i64 0) ∧ w2.cell? ⟨w.heap.size + 1, 1, none⟩ = some (.slice none 0 0) ∧ (∀ i, w2.frozen? ⟨w.heap.size + 1, i, none⟩ = false) ∧
      GotR w n xs (.returned (.agg #[.int .i64 n, .slice a' xs.length c'])) ((w2.setCell ⟨w.heap.size + 1, 0, none⟩ (.int .i64 n)).setCell ⟨w.heap.size + 1, 1, none⟩ (.slice a' xs.length c'))) := Lib.hid (by
    intro w2 v' o b2
    obtain ⟨a', c', rfl, hn⟩ := Bk.OwnN.nums o
    have Z2 := Z1.below b2
    have hb : ∀ ad, a' = some ad → w1.heap.size ≤ ad.block ∧ ad.block < w2.heap.size := fun ad e => by
      subst e
      exact World.ownsRow.lt o ad.block rfl
    refine ⟨a', c', rfl, Z2.cell 0, Z2.cell 1, Z2.free, a', c', rfl, ?_, ?_, ?_⟩
    · refine nums_fr (nums_fr hn (fr_set w2 (w.heap.size + 1) 0 _) ?_) (fr_set _ (w.heap.size + 1) 1 _) ?_ <;> (intro ad e hh; have := hb ad e; omega)
    · intro ad e
      have := hb ad e
      have h3 : ((w2.setCell ⟨w.heap.size + 1, 0, none⟩ (.int .i64 n)).setCell ⟨w.heap.size + 1, 1, none⟩ (.slice a' xs.length c')).heap.size = w2.heap.size := by simp
      omega
    · exact ((B1.trans (b2.mono (by omega))).setCell (p := ⟨w.heap.size + 1, 0, none⟩) (Nat.le_succ _) _).setCell (p := ⟨w.heap.size + 1, 1, none⟩) (Nat.le_succ _) _)
  have k0 : w1.cell? ⟨w.heap.size, 0, none⟩ = some (.slice a xs.length c) := K1.cell 0
  generalize GotR w n xs = Q at *
  clear K1 Z1 B1 hw1 h hl
  unfold Bk.Cln at CL
  have HL := Lib.hid (rfl : xs.length = xs.length)
  generalize hy : w.heap.size = Y at *
  go_enter Try.func56, Try.ntmps56
  go_wp2_with fail
  rw [← W1.out]
  refine CL.out.mono ?_
  rintro e w2 ⟨v', rfl, o2, b2⟩
  obtain ⟨a', c', rfl, z0, z1, fz, q2⟩ := END.out w2 v' o2 b2
  have q2 := Lib.hid q2
  clear o2 b2 CL END W1 k0
  go_wp2_with fail
  refine bodyPost_ret (by simp [results, Try.results56, go_sem, z0, z1]; try rfl) rfl ?_
  exact q2.out
end Go.Proofs.Ytbghjcfepjbppaa
/-
  Rows of numbers that can be read.
-/
namespace Go.Proofs.Ytbghjcfepjbppaa.Bk
open Go.RowKit
/-- rows of numbers that can be read -/
def Rws (w : World) (a : Option Addr) (LL : List (List Int)) : Prop := ∀ i (h : i < LL.length), ∃ g o q c, a = some ⟨g, o, none⟩ ∧ g < w.heap.size ∧ w.cell? ⟨g, o + i, none⟩ = some (.slice q LL[i].length c) ∧ Nums w q LL[i]
theorem Rws.next {w w' : World} {a : Option Addr} {LL : List (List Int)} (h : Rws w a LL) (hb : Below w.heap.size w w') : Rws w' a LL := fun i hi => by
  obtain ⟨g, o, q, c, e, hg, ck, nn⟩ := h i hi
  exact ⟨g, o, q, c, e, Nat.lt_of_lt_of_le hg hb.size, (hb.cell (p := ⟨g, _, none⟩) hg).trans ck, nn.next hb⟩
end Go.Proofs.Ytbghjcfepjbppaa.Bk
/-
  WHAT A READER GOT, IN MEMORY.
-/
namespace Go.Proofs.Ytbghjcfepjbppaa
open Go.RowKit
/-- matches by their numbers, from one on -/
def numb : Int → List (List Int) → List (Int × List Int)
  | _, [] => []
  | a, x :: l => (a, x) :: numb (a + 1) l
theorem numb_len : ∀ (a : Int) (l : List (List Int)), (numb a l).length = l.length
  | _, [] => rfl
  | a, x :: l => by show (numb (a + 1) l).length + 1 = l.length + 1; rw [numb_len]
theorem numb_one : ∀ (a : Int) (l : List (List Int)) (x : List Int), numb a (l ++ [x]) = numb a l ++ [(a + (l.length : Int), x)]
  | a, [], x => by simp [numb]
  | a, y :: l, x => by
    show (a, y) :: numb (a + 1) (l ++ [x]) = (a, y) :: numb (a + 1) l ++ [(a + ((l.length + 1 : Nat) : Int), x)]
    rw [numb_one (a + 1) l x, show a + ((l.length + 1 : Nat) : Int) = a + 1 + (l.length : Int) by omega]
    rfl
theorem numb_take {a : Int} {l : List (List Int)} {j : Nat} (h : j < l.length) : numb a (l.take (j + 1)) = numb a (l.take j) ++ [(a + (j : Int), l[j])] := by
  rw [List.take_succ_eq_append_getElem h, numb_one, List.length_take, Nat.min_eq_left (Nat.le_of_lt h)]
/-- a reader in memory, its blocks U -/
structure RdA (w : World) (U : Nat → Prop) (t : Nat) (nodes to : Int) (nm : ByteArray) (most at_ gone : Int) (LG : List (Int × List Int)) (gv : Value) (cs : List Value) : Prop where
  blk : Blk w t 119 (rdr nodes to nm most at_ gone gv)
  own : w.ownsRow 0 72 2 gv LG.length cs
  gvt : ∀ q, gv.ownBlock = some q → q ≠ t
  gc : ∀ i (h : i < LG.length), ∃ q c, cs[i * 2]? = some (.int .i64 LG[i].1) ∧ cs[i * 2 + 1]? = some (.slice q LG[i].2.length c) ∧ Bk.Nums w q LG[i].2 ∧ ∀ p, q = some p → U p.block ∧ p.block ≠ t ∧ gv.ownBlock ≠ some p.block
  ut : U t
  ug : ∀ q, gv.ownBlock = some q → U q
  ul : ∀ q, U q → q < w.heap.size
def RdM (w : World) (U : Nat → Prop) (t : Nat) (nodes to : Int) (nm : ByteArray) (most at_ gone : Int) (LG : List (Int × List Int)) : Prop := ∃ gv cs, RdA w U t nodes to nm most at_ gone LG gv cs
section
variable {w w' : World} {U : Nat → Prop} {t : Nat} {nodes to : Int} {nm : ByteArray} {most at_ gone : Int} {LG : List (Int × List Int)} {gv : Value} {cs : List Value}
theorem RdA.fr {P : Nat → Prop} (h : RdA w U t nodes to nm most at_ gone LG gv cs) (f : Fr w w' P) (hP : ∀ q, P q → ¬ U q) : RdA w' U t nodes to nm most at_ gone LG gv cs where
  blk := h.blk.fr f (fun e => hP _ e h.ut)
  own := Fr.own h.own f (fun q hq e => hP _ e (h.ug q hq))
  gvt := h.gvt
  gc := fun i hi => by
    obtain ⟨q, c, e0, e1, nn, hb⟩ := h.gc i hi
    exact ⟨q, c, e0, e1, nums_fr nn f (fun ad e hh => hP _ hh (hb ad e).1), hb⟩
  ut := h.ut
  ug := h.ug
  ul := fun q hq => Nat.lt_of_lt_of_le (h.ul q hq) f.size
theorem RdM.fr {P : Nat → Prop} (h : RdM w U t nodes to nm most at_ gone LG) (f : Fr w w' P) (hP : ∀ q, P q → ¬ U q) : RdM w' U t nodes to nm most at_ gone LG := by
  obtain ⟨gv, cs, h⟩ := h
  exact ⟨gv, cs, h.fr f hP⟩
theorem RdM.next (h : RdM w U t nodes to nm most at_ gone LG) (b : Below w.heap.size w w') : RdM w' U t nodes to nm most at_ gone LG := by
  exact h.fr (P := fun _ => False) (Fr.of_below b _) (fun _ hf => hf.elim)
/-- the reader's own block is changed -/
theorem RdA.put {to' at' gone' : Int} (h : RdA w U t nodes to nm most at_ gone LG gv cs) (T : Blk w' t 119 (rdr nodes to' nm most at' gone' gv)) (f : Fr w w' (fun q => q = t)) : RdA w' U t nodes to' nm most at' gone' LG gv cs where
  blk := T
  own := Fr.own h.own f (fun q hq e => h.gvt q hq e)
  gvt := h.gvt
  gc := fun i hi => by
    obtain ⟨q, c, e0, e1, nn, hb⟩ := h.gc i hi
    exact ⟨q, c, e0, e1, nums_fr nn f (fun ad e hh => (hb ad e).2.1 hh), hb⟩
  ut := h.ut
  ug := h.ug
  ul := fun q hq => Nat.lt_of_lt_of_le (h.ul q hq) f.size
/-- what a call that changes the reader leaves -/
def Rch (w : World) (U : Nat → Prop) (t : Nat) (nodes to : Int) (nm : ByteArray) (most at_ gone : Int) (LG : List (Int × List Int)) (w' : World) : Prop :=
  ∃ U', RdM w' U' t nodes to nm most at_ gone LG ∧ Fr w w' U ∧ (∀ q, U' q → U q ∨ w.heap.size ≤ q)
theorem Rch.trans {w1 w2 : World} {to1 at1 gone1 : Int} {LG1 LG2 : List (Int × List Int)} {to2 at2 gone2 : Int} (h : Rch w U t nodes to1 nm most at1 gone1 LG1 w1)
    (k : ∀ U1, RdM w1 U1 t nodes to1 nm most at1 gone1 LG1 → Rch w1 U1 t nodes to2 nm most at2 gone2 LG2 w2) : Rch w U t nodes to2 nm most at2 gone2 LG2 w2 := by
  obtain ⟨U1, h1, f1, u1⟩ := h
  obtain ⟨U2, h2, f2, u2⟩ := k U1 h1
  refine ⟨U2, h2, f1.trans f2 (fun _ _ h => h) (fun q hq hh => ?_), fun q hq => ?_⟩
  · rcases u1 q hh with h | h
    · exact h
    · omega
  · rcases u2 q hq with h | h
    · exact u1 q h
    · exact .inr (Nat.le_trans f1.size h)
/-- one match more -/
theorem RdA.push {v w4 : World} {a' : Option Addr} {c' g cap : Nat} {xs : List Int} {u : Value} (o : Obj) (h : RdA w U t nodes to nm most at_ gone LG gv cs) (bv : Below w.heap.size w v)
    (hn : Bk.Nums v a' xs) (ha : ∀ ad, a' = some ad → w.heap.size ≤ ad.block ∧ ad.block < v.heap.size)
    (ho : w4.ownsRow 0 72 2 (.slice (some ⟨g, 0, none⟩) (LG.length + 1) cap) (LG.length + 1) (cs ++ [.int .i64 at_, .slice a' xs.length c'])) (hg : (v.alloc o).grownBy w4 gv.ownBlock) (hat : gv.ownBlock = some g ∨ g = (v.alloc o).heap.size) (hu : u = .slice (some ⟨g, 0, none⟩) (LG.length + 1) cap) :
    w4.frozen? ⟨t, 6, none⟩ = false ∧ w4.cell? ⟨t, 6, none⟩ = some gv ∧ (w4.setCell ⟨t, 6, none⟩ u).cell? ⟨t, 4, none⟩ = some (.int .i64 at_) ∧ (w4.setCell ⟨t, 6, none⟩ u).frozen? ⟨t, 4, none⟩ = false ∧
      ∀ at', Rch w U t nodes to nm most at' gone (LG ++ [(at_, xs)]) ((w4.setCell ⟨t, 6, none⟩ u).setCell ⟨t, 4, none⟩ (.int .i64 at')) := by
  subst hu
  have ht := h.ul t h.ut
  have hgl : ∀ q, gv.ownBlock = some q → q < w.heap.size := fun q hq => h.ul q (h.ug q hq)
  have hs1 : (v.alloc o).heap.size = v.heap.size + 1 := by simp
  have hvs := bv.size
  have f0 : Fr w (v.alloc o) (fun q => gv.ownBlock = some q) := (Fr.of_below bv _).al o
  have f1 : Fr (v.alloc o) w4 (fun q => gv.ownBlock = some q) := (Fr.of_grown hg).mono (fun q _ h => h.symm)
  have f2 : Fr w w4 (fun q => gv.ownBlock = some q) := f0.on f1
  have T4 : Blk w4 t 119 (rdr nodes to nm most at_ gone gv) := h.blk.fr f2 (fun e => h.gvt _ e rfl)
  have T5 : Blk (w4.setCell ⟨t, 6, none⟩ (.slice (some ⟨g, 0, none⟩) (LG.length + 1) cap)) t 119 (rdr nodes to nm most at_ gone (.slice (some ⟨g, 0, none⟩) (LG.length + 1) cap)) := T4.set 6 _
  refine ⟨T4.free 6, by rw [T4.cell]; rfl, T5.cell 4, T5.free 4, fun at' => ?_⟩
  have gt : g ≠ t := by
    rcases hat with e | e
    · exact h.gvt g e
    · omega
  have fin : Fr w4 ((w4.setCell ⟨t, 6, none⟩ (.slice (some ⟨g, 0, none⟩) (LG.length + 1) cap)).setCell ⟨t, 4, none⟩ (.int .i64 at')) (fun q => q = t) := (fr_set w4 t 6 _).set t 4 _ (.inl rfl)
  have hgw : g < w4.heap.size := (World.ownsRow.lt ho g rfl).2
  have av : ∀ ad, a' = some ad → ad.block ≠ t ∧ ad.block ≠ g ∧ ad.block < w4.heap.size := fun ad e => by
    have h1 := ha ad e
    have h2 := f1.size
    refine ⟨by omega, ?_, by omega⟩
    rcases hat with e' | e'
    · have := hgl g e'; omega
    · omega
  refine ⟨fun q => U q ∨ q = g ∨ ∃ ad, a' = some ad ∧ q = ad.block, ⟨.slice (some ⟨g, 0, none⟩) (LG.length + 1) cap, cs ++ [.int .i64 at_, .slice a' xs.length c'], ?_⟩, ?_, ?_⟩
  · refine { blk := T5.set 4 _, own := ?_, gvt := ?_, gc := ?_, ut := .inl h.ut, ug := ?_, ul := ?_ }
    · exact Fr.own (by rw [List.length_append]; exact ho) fin (fun q hq => by
        have : g = q := by simpa [Value.ownBlock] using hq
        omega)
    · intro q hq
      have : g = q := by simpa [Value.ownBlock] using hq
      omega
    · intro i hi
      rw [List.length_append] at hi
      simp only [List.length_cons, List.length_nil] at hi
      have hcl : cs.length = LG.length * 2 := h.own.1
      rcases Nat.lt_or_ge i LG.length with h1 | h1
      · obtain ⟨q, c, e0, e1, nn, hb⟩ := h.gc i h1
        rw [List.getElem_append_left h1, List.getElem?_append_left (by omega), List.getElem?_append_left (by omega)]
        refine ⟨q, c, e0, e1, nums_fr (nums_fr nn f2 (fun ad e hh => (hb ad e).2.2 hh)) fin (fun ad e hh => (hb ad e).2.1 hh), fun p hp => ⟨.inl (hb p hp).1, (hb p hp).2.1, ?_⟩⟩
        intro hh
        have hpg : g = p.block := by simpa [Value.ownBlock] using hh
        rcases hat with e' | e'
        · exact (hb p hp).2.2 (by rw [e', hpg])
        · have := h.ul _ (hb p hp).1; omega
      · obtain rfl : i = LG.length := by omega
        rw [List.getElem_append_right (Nat.le_refl _), List.getElem?_append_right (by omega), List.getElem?_append_right (by omega)]
        simp only [Nat.sub_self, List.getElem_cons_zero]
        rw [show LG.length * 2 - cs.length = 0 by omega, show LG.length * 2 + 1 - cs.length = 1 by omega]
        refine ⟨a', c', rfl, rfl, nums_fr (nums_fr (nums_fr hn ((Fr.refl v (fun q => gv.ownBlock = some q)).al o) (fun ad e hh => by have := hgl _ hh; have := ha ad e; omega)) f1 (fun ad e hh => by have := hgl _ hh; have := ha ad e; omega)) fin (fun ad e hh => (av ad e).1 hh), fun p hp => ⟨.inr (.inr ⟨p, hp, rfl⟩), (av p hp).1, ?_⟩⟩
        intro hh
        have hpg : g = p.block := by simpa [Value.ownBlock] using hh
        exact (av p hp).2.1 hpg.symm
    · intro q hq
      have : g = q := by simpa [Value.ownBlock] using hq
      exact .inr (.inl this.symm)
    · intro q hq
      have h5 : ((w4.setCell ⟨t, 6, none⟩ (.slice (some ⟨g, 0, none⟩) (LG.length + 1) cap)).setCell ⟨t, 4, none⟩ (.int .i64 at')).heap.size = w4.heap.size := by simp
      have h6 := f2.size
      rw [h5]
      rcases hq with hq | rfl | ⟨ad, e, rfl⟩
      · have := h.ul q hq; omega
      · exact hgw
      · exact (av ad e).2.2
  · exact (f2.mono (fun q _ hq => h.ug q hq)).on (fin.mono (fun q _ e => by subst e; exact h.ut))
  · intro q hq
    rcases hq with hq | rfl | ⟨ad, e, rfl⟩
    · exact .inl hq
    · rcases hat with e' | e'
      · exact .inl (h.ug _ e')
      · right; omega
    · exact .inr (ha ad e).1
end
end Go.Proofs.Ytbghjcfepjbppaa
