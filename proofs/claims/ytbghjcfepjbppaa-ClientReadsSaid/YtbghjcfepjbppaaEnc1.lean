/-
  THE TEXT OF AN EVENT, WRITTEN: event.Encode.
-/
import Derived.Test.YtbghjcfepjbppaaWhat
import Derived.Lib.QuietBelow
import Derived.Deep.QuietTactic
import Derived.BigQuiet
namespace Go.Proofs.Ytbghjcfepjbppaa
open Go.RowKit
theorem mixedE : Try.prog.follows .mixedOrders = true := by kernel_rfl
theorem isK_le' {v : Val} (h : isK v = true) : v.k = 1 ∨ v.k = 2 ∨ v.k = 3 := by
  unfold isK at h
  simp only [Bool.or_eq_true, decide_eq_true_eq] at h
  omega
theorem ret_enc {s t : ByteArray} {n : Int} (h : s = t) : Ending.returned (.tuple #[.string s, .int .i64 n]) = .returned (.tuple #[.string t, .int .i64 n]) := by rw [h]
set_option maxHeartbeats 2000000 in
set_option maxRecDepth 100000 in
theorem encode_any (a b c : Int) (k : ByteArray) (p : Option Addr) (cp : Nat) (L : List Fld) (w : World) (h100 : L.length ≤ 100) (hk : k.size ≤ 9223372036854775807) (hx : Flds w p L) (hS : ∀ x ∈ L, x.nm.size ≤ 9223372036854775807 ∧ x.v.s.size ≤ 281474976710656) (hW : ∀ x ∈ L, x.v.Wf) :
    Calls Try.prog 86 #[evV a b c k (.slice p L.length cp)] w fun e w' => e = .returned (.tuple #[.string (if chkB a b c k L then evS a b c k L else ⟨#[]⟩), .int .i64 (errI (chkB a b c k L))]) ∧ Below w.heap.size w w' := by
  obtain ⟨w1, hw1, K1, B1⟩ : ∃ w1, w1 = w.alloc (.cells #[.int .i64 a, .int .i64 b, .int .i64 c, .string k, .slice p L.length cp] 31) ∧ Blk w1 w.heap.size 31 #[.int .i64 a, .int .i64 b, .int .i64 c, .string k, .slice p L.length cp] ∧ Below w.heap.size w w1 :=
    ⟨_, rfl, heap_alloc_new w _, (Below.refl _ w).alloc (Nat.le_refl _) _⟩
  have CK := check_any a b c k p cp L w1 h100 hk (hx.below B1) (fun x hx => by have := hS x hx; omega)
  cases hq : chkB a b c k L
  · rw [hq] at CK
    have CKh := Lib.hid CK
    have W1 := Lib.hid hw1
    have B1h := Lib.hid B1
    have e0 : w1.cell? ⟨w.heap.size, 0, none⟩ = some (.int .i64 a) := K1.cell 0
    have e1 : w1.cell? ⟨w.heap.size, 1, none⟩ = some (.int .i64 b) := K1.cell 1
    have e2 : w1.cell? ⟨w.heap.size, 2, none⟩ = some (.int .i64 c) := K1.cell 2
    have e3 : w1.cell? ⟨w.heap.size, 3, none⟩ = some (.string k) := K1.cell 3
    have e4 : w1.cell? ⟨w.heap.size, 4, none⟩ = some (.slice p L.length cp) := K1.cell 4
    clear CK hq hw1 B1 K1 hx hS hW
    generalize L.length = n at *
    generalize hy : w.heap.size = Y at *
    unfold evV at CKh ⊢
    show Calls _ _ _ _ fun e w' => e = .returned (.tuple #[.string ⟨#[]⟩, .int .i64 1]) ∧ _
    have CKh : Hid (Calls Try.prog 41 #[.agg #[.int .i64 a, .int .i64 b, .int .i64 c, .string k, .slice p n cp]] w1 fun e w' => e = .returned (.int .i64 1) ∧ Below w1.heap.size w1 w') := CKh
    go_enter Try.func86, Try.ntmps86
    go_wp2_with fail
    rw [← W1.out]
    go_wp2_with fail
    refine CKh.out.mono ?_
    rintro e w2 ⟨rfl, b2⟩
    have B2h := Lib.hid (B1h.out.trans (b2.mono (by have := B1h.out.size; omega)))
    clear b2
    go_wp2_with fail
    go_ret2
    exact ⟨rfl, B2h.out⟩
  · rw [hq] at CK
    obtain ⟨⟨a0, a1⟩, ⟨b0, b1⟩, ⟨c0, c1⟩, hk16, hl8, hf⟩ := chk_facts hq
    have SH := headS_size a b c (L.length : Int) hk16
    have SF : ∀ j, (fldsS (L.take j)).size ≤ 107 * 8 := fun j => by
      have := fldsS_size (l := L.take j) (fun x hx => by
        obtain ⟨i, hi, rfl⟩ := List.mem_iff_getElem.1 (List.mem_of_mem_take hx)
        exact fldS_size (hf i hi).1 (hf i hi).2.2.1)
      have h2 : (L.take j).length ≤ 8 := by rw [List.length_take]; omega
      omega
    have XX := Lib.hid hx
    have HF : Hid (∀ x ∈ L, x.nm.size ≤ 16 ∧ isK x.v = true ∧ (whatS x.v).size ≤ 73 ∧ (x.v.k ≠ 3 ∨ x.v.s.size ≤ 64)) := Lib.hid (fun x hx => by
      obtain ⟨i, hi, rfl⟩ := List.mem_iff_getElem.1 hx
      exact hf i hi)
    have HW := Lib.hid hW
    have HSz := Lib.hid hS
    have SFh := Lib.hid SF
    have zA := Bt.numS_size a
    have zB := Bt.numS_size b
    have zC := Bt.numS_size c
    have zK := textS_size k
    have NA := Lib.hid (fun w => Bt.num_any a a0 (by omega) w)
    have NB := Lib.hid (fun w => Bt.num_any b b0 (by omega) w)
    have NC := Lib.hid (fun w => Bt.num_any c c0 (by omega) w)
    have NK := Lib.hid (fun w => Bt.text_any k (by omega) w)
    have NL := Lib.hid (fun w => Bt.num_any (L.length : Int) (by omega) (by omega) w)
    have zL := Bt.numS_size (L.length : Int)
    have HE : Hid (∀ A B C K N : ByteArray, A = Bt.numS a → B = Bt.numS b → C = Bt.numS c → K = Bt.textS k → N = Bt.numS (L.length : Int) → A ++ B ++ C ++ K ++ N = headS a b c k (L.length : Int)) := Lib.hid (by
      rintro A B C K N rfl rfl rfl rfl rfl
      unfold headS
      rw [ba_assoc, ba_assoc, ba_assoc])
    have RE : Hid (evS a b c k L = headS a b c k (L.length : Int) ++ fldsS (L.take L.length)) := Lib.hid (by rw [List.take_of_length_le (Nat.le_refl _)]; rfl)
    have W1 := Lib.hid hw1
    have B1h := Lib.hid B1
    have K1h := Lib.hid K1
    have e0 : w1.cell? ⟨w.heap.size, 0, none⟩ = some (.int .i64 a) := K1.cell 0
    have e1 : w1.cell? ⟨w.heap.size, 1, none⟩ = some (.int .i64 b) := K1.cell 1
    have e2 : w1.cell? ⟨w.heap.size, 2, none⟩ = some (.int .i64 c) := K1.cell 2
    have e3 : w1.cell? ⟨w.heap.size, 3, none⟩ = some (.string k) := K1.cell 3
    have e4 : w1.cell? ⟨w.heap.size, 4, none⟩ = some (.slice p L.length cp) := K1.cell 4
    have CKh := Lib.hid CK
    clear CK hq hw1 B1 K1 hx hS hW hf SF
    unfold evV at CKh ⊢
    show Calls _ _ _ _ fun e w' => e = .returned (.tuple #[.string (evS a b c k L), .int .i64 0]) ∧ _
    have CKh : Hid (Calls Try.prog 41 #[.agg #[.int .i64 a, .int .i64 b, .int .i64 c, .string k, .slice p L.length cp]] w1 fun e w' => e = .returned (.int .i64 0) ∧ Below w1.heap.size w1 w') := CKh
    have zk : k.size ≤ 16 := hk16
    obtain ⟨A, hA⟩ : ∃ A, Bt.numS a = A := ⟨_, rfl⟩
    obtain ⟨B, hB⟩ : ∃ A, Bt.numS b = A := ⟨_, rfl⟩
    obtain ⟨C, hC⟩ : ∃ A, Bt.numS c = A := ⟨_, rfl⟩
    obtain ⟨K, hK⟩ : ∃ A, Bt.textS k = A := ⟨_, rfl⟩
    obtain ⟨N, hN⟩ : ∃ A, Bt.numS (L.length : Int) = A := ⟨_, rfl⟩
    have EH := Lib.hid (HE.out A B C K N hA.symm hB.symm hC.symm hK.symm hN.symm)
    rw [hA] at NA zA
    rw [hB] at NB zB
    rw [hC] at NC zC
    rw [hK] at NK zK
    rw [hN] at NL zL
    clear hA hB hC hK hN HE
    generalize hH : headS a b c k (L.length : Int) = H at *
    generalize hE : evS a b c k L = E at *
    clear hH hE
    generalize hn : L.length = n at *
    have HN := Lib.hid hn
    clear hn
    generalize hy : w.heap.size = Y at *
    go_enter Try.func86, Try.ntmps86
    go_wp2_with fail
    rw [← W1.out]
    go_wp2_with fail
    refine CKh.out.mono ?_
    rintro e w2 ⟨rfl, b2⟩
    have K2 := K1h.out.below b2
    have K2h := Lib.hid K2
    have B2h := Lib.hid (B1h.out.trans (b2.mono (by have := B1h.out.size; omega)))
    clear b2 e0 e1 e2 e3 e4
    have d0 : w2.cell? ⟨Y, 0, none⟩ = some (.int .i64 a) := K2.cell 0
    have d1 : w2.cell? ⟨Y, 1, none⟩ = some (.int .i64 b) := K2.cell 1
    have d2 : w2.cell? ⟨Y, 2, none⟩ = some (.int .i64 c) := K2.cell 2
    have d3 : w2.cell? ⟨Y, 3, none⟩ = some (.string k) := K2.cell 3
    have d4 : w2.cell? ⟨Y, 4, none⟩ = some (.slice p n cp) := K2.cell 4
    clear K2
    go_wp2_with fail
    have x0 := fun d os => cell_regrown d0 d os
    have x1 := fun d os => cell_regrown d1 d os
    have x2 := fun d os => cell_regrown d2 d os
    have x3 := fun d os => cell_regrown d3 d os
    have C1 := Lib.hid (fun d os => Calls.regrown_of (d := d) (os := os) (NA.out (Go.Sort.grow (redrawn w2 d) os)))
    have C2 := Lib.hid (fun d os => Calls.regrown_of (d := d) (os := os) (NB.out (Go.Sort.grow (redrawn w2 d) os)))
    have C3 := Lib.hid (fun d os => Calls.regrown_of (d := d) (os := os) (NC.out (Go.Sort.grow (redrawn w2 d) os)))
    have C4 := Lib.hid (fun d os => Calls.regrown_of (d := d) (os := os) (NK.out (Go.Sort.grow (redrawn w2 d) os)))
    have q1 : ¬ (9223372036854775807 < A.size + B.size) := by omega
    have q2 : ¬ (9223372036854775807 < A.size + B.size + C.size) := by omega
    have q3 : ¬ (9223372036854775807 < A.size + B.size + C.size + K.size) := by omega
    have u1 : IntKind.u64.wrap a = a := IntWalk.u64_in _ (by omega)
    have u2 : IntKind.u64.wrap b = b := IntWalk.u64_in _ (by omega)
    have u3 : IntKind.u64.wrap c = c := IntWalk.u64_in _ (by omega)
    refine wp_region_quiet_below mixedE (by kernel_rfl) ?_
    repeat (quiet_step (first | (with_reducible exact C1.out _ _) | (with_reducible exact C2.out _ _) | (with_reducible exact C3.out _ _) | (with_reducible exact C4.out _ _)))
    refine wpQuiet_nil ?_
    intro _ hw'
    obtain ⟨⟨dq, osq⟩, hw''⟩ := hw'
    subst hw''
    have b3 := below_regrown w2 dq osq
    have K3 := K2h.out.below b3
    have B3h := Lib.hid (B2h.out.trans (b3.mono (by have := B2h.out.size; omega)))
    clear x0 x1 x2 x3 d0 d1 d2 d3 d4 C1 C2 C3 C4 b3
    generalize Go.Sort.grow (redrawn w2 dq) osq = w3 at *
    have d4 : w3.cell? ⟨Y, 4, none⟩ = some (.slice p n cp) := K3.cell 4
    have K3h := Lib.hid K3
    clear K3
    clear u1 u2 u3 q1 q2 q3 NA NB NC NK
    have u4 : IntKind.u64.wrap (n : Int) = (n : Int) := IntWalk.u64_in _ (by omega)
    go_wp2_with fail
    refine (NL.out _).mono ?_
    rintro e w4 ⟨rfl, b4⟩
    have K4 := K3h.out.below b4
    have B4h := Lib.hid (B3h.out.trans (b4.mono (by have := B3h.out.size; omega)))
    clear b4 d4 u4
    have d4 : w4.cell? ⟨Y, 4, none⟩ = some (.slice p n cp) := K4.cell 4
    clear K4
    have q4 : ¬ (9223372036854775807 < A.size + B.size + C.size + K.size + N.size) := by omega
    go_wp2_with fail
    rw [EH.out]
    clear q4 zA zB zC zK zL EH
    go_loopw [41, 5] (fun i s wq => ∃ (j : Nat) (S : ByteArray), i = .int .i64 j ∧ s = .string S ∧ j ≤ n ∧ Hid (S = H ++ fldsS (L.take j)) ∧ Below Y w wq) (fun i _ _ => n - (intOf i).toNat)
    case atStart => exact ⟨0, H, rfl, rfl, Nat.zero_le _, Lib.hid (ba_nil H).symm, B4h.out⟩
    case round =>
      obtain ⟨j, S, rfl, rfl, hj, hS, hB⟩ := hrel
      have HB := Lib.hid hB
      clear hB
      by_cases hjn : j < n
      · have hjL : j < L.length := by rw [HN.out]; exact hjn
        obtain ⟨g0, o, rfl, hg0, f0, f1, f2, f3, f4⟩ := XX.out j hjL
        have hgY : g0 < Y := by rw [← hy]; exact hg0
        rw [← HB.out.cell (p := ⟨g0, _, none⟩) hgY] at f0 f1 f2 f3 f4
        have FT := Lib.hid (fldsS_take hjL)
        have FS : S.size ≤ 1000 := by
          rw [hS.out, ba_size]
          have := SFh.out j
          omega
        obtain ⟨m1, m2, m3, m4⟩ := HF.out L[j] (List.getElem_mem hjL)
        have WF := HW.out L[j] (List.getElem_mem hjL)
        have SZ := HSz.out L[j] (List.getElem_mem hjL)
        have ek := isK_le' m2
        have WT := Lib.hid (fun W => what_any L[j].v WF (by omega) W)
        have TX := Lib.hid (fun W => Bt.text_any L[j].nm (by omega) W)
        have NX := Lib.hid (fun W => Bt.num_any L[j].v.k (by omega) (by omega) W)
        have y1 := textS_size L[j].nm
        have y2 := Bt.numS_size L[j].v.k
        have NS : Hid (∀ T M Q : ByteArray, T = Bt.textS L[j].nm → M = Bt.numS L[j].v.k → Q = whatS L[j].v → S ++ (T ++ M ++ Q) = H ++ fldsS (L.take (j + 1))) := Lib.hid (by
          rintro T M Q rfl rfl rfl
          rw [FT.out, hS.out, ba_assoc H, ba_assoc (Bt.textS _)]
          rfl)
        obtain ⟨T, hT⟩ : ∃ A, Bt.textS L[j].nm = A := ⟨_, rfl⟩
        obtain ⟨M, hM⟩ : ∃ A, Bt.numS L[j].v.k = A := ⟨_, rfl⟩
        obtain ⟨Q, hQ⟩ : ∃ A, whatS L[j].v = A := ⟨_, rfl⟩
        have NR := Lib.hid (NS.out T M Q hT.symm hM.symm hQ.symm)
        rw [hT] at TX y1
        rw [hM] at NX y2
        rw [hQ] at WT m3
        clear NS hT hM hQ FT WF SZ
        generalize L[j] = x at *
        obtain ⟨xn, xk, xm, xf, xs⟩ := x
        unfold Val.val at WT
        simp only at f0 f1 f2 f3 f4 m1 m2 m3 m4 ek WT TX NX
        obtain ⟨w5, hw5, N5, B5⟩ : ∃ w5, w5 = wr.alloc (.cells #[.string xn, .int .i64 xk, .int .i64 xm, .float .f64 xf, .string xs] 105) ∧ Blk w5 wr.heap.size 105 #[.string xn, .int .i64 xk, .int .i64 xm, .float .f64 xf, .string xs] ∧ Below wr.heap.size wr w5 :=
          ⟨_, rfl, heap_alloc_new wr _, (Below.refl _ wr).alloc (Nat.le_refl _) _⟩
        have W5 := Lib.hid hw5
        have B5h : Hid (Below Y w w5) := Lib.hid (HB.out.trans (B5.mono (by have := HB.out.size; omega)))
        have n0 : w5.cell? ⟨wr.heap.size, 0, none⟩ = some (.string xn) := N5.cell 0
        have n1 : w5.cell? ⟨wr.heap.size, 1, none⟩ = some (.int .i64 xk) := N5.cell 1
        have n2 : w5.cell? ⟨wr.heap.size, 2, none⟩ = some (.int .i64 xm) := N5.cell 2
        have n3 : w5.cell? ⟨wr.heap.size, 3, none⟩ = some (.float .f64 xf) := N5.cell 3
        have n4 : w5.cell? ⟨wr.heap.size, 4, none⟩ = some (.string xs) := N5.cell 4
        clear hw5 B5 N5
        go_wp2_with fail
        rw [← W5.out]
        have x0 := fun d os => cell_regrown n0 d os
        have x1 := fun d os => cell_regrown n1 d os
        have x2 := fun d os => cell_regrown n2 d os
        have x3 := fun d os => cell_regrown n3 d os
        have x4 := fun d os => cell_regrown n4 d os
        have C1 := Lib.hid (fun d os => Calls.regrown_of (d := d) (os := os) (TX.out (Go.Sort.grow (redrawn w5 d) os)))
        have C2 := Lib.hid (fun d os => Calls.regrown_of (d := d) (os := os) (NX.out (Go.Sort.grow (redrawn w5 d) os)))
        have C3 := Lib.hid (fun d os => Calls.regrown_of (d := d) (os := os) (WT.out (Go.Sort.grow (redrawn w5 d) os)))
        have u1 : IntKind.u64.wrap xk = xk := IntWalk.u64_in _ (by omega)
        have q1 : ¬ (9223372036854775807 < T.size + M.size) := by omega
        have q2 : ¬ (9223372036854775807 < T.size + M.size + Q.size) := by omega
        have q3 : ¬ (9223372036854775807 < S.size + (T.size + M.size + Q.size)) := by omega
        refine wp_region_quiet_below mixedE (by kernel_rfl) ?_
        repeat (quiet_step (first | (with_reducible exact C1.out _ _) | (with_reducible exact C2.out _ _) | (with_reducible exact C3.out _ _)))
        refine wpQuiet_nil ?_
        intro _ hw'
        obtain ⟨⟨dq, osq⟩, hw''⟩ := hw'
        subst hw''
        have b6 := below_regrown w5 dq osq
        have B6h := Lib.hid (B5h.out.trans (b6.mono (by have := B5h.out.size; omega)))
        clear b6 x0 x1 x2 x3 x4 n0 n1 n2 n3 n4 C1 C2 C3 u1 q1 q2 q3
        generalize Go.Sort.grow (redrawn w5 dq) osq = w6 at *
        go_wp2_with fail
        go_roundw
        case rel => exact ⟨j + 1, _, by go_num, rfl, by omega, NR, B6h.out⟩
        case measure => simp [intOf]; omega
      · obtain rfl : j = n := by omega
        go_wp2_with fail
        go_ret2
        exact ⟨ret_enc (hS.out.trans RE.out.symm), HB.out⟩
end Go.Proofs.Ytbghjcfepjbppaa
