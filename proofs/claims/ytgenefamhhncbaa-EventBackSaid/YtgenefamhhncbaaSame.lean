/-
  LIKE EVENTS ARE THE SAME: the document's SameValue and Same, of events alike but for which NaN it is.
-/
import Derived.Test.YtgenefamhhncbaaRdec0
import Derived.Test.YtgenefamhhncbaaGet0
namespace Go.Proofs.Ytgenefamhhncbaa
open Go.RowKit
set_option maxHeartbeats 1000000 in
theorem samev_any (v v' : Val) (h : codeV v = codeV v') (w : World) : Calls Try.prog 23 #[v.val, v'.val] w fun e w' => e = .returned (.bool true) ∧ Below w.heap.size w w' := by
  obtain ⟨w2, hw2, B2, A2, D2⟩ := boxed w v v' 50 50
  have W2 := Lib.hid hw2
  have B2h := Lib.hid B2
  obtain ⟨a0, a1, a2, a3, la⟩ := A2
  obtain ⟨b0, b1, b2, b3, lb⟩ := D2
  unfold Val.val
  obtain ⟨k, n, f, s⟩ := v
  obtain ⟨k', n', f', s'⟩ := v'
  unfold codeV at h
  simp only [Val.mk.injEq] at h
  obtain ⟨rfl, rfl, hf, rfl⟩ := h
  have hc := Bt.rbits_any f
  have hc' := Bt.rbits_any f'
  rw [← hf] at hc'
  simp only at *
  generalize Bt.codeN f = c at *
  clear hw2 B2 hf
  generalize hy : w.heap.size = Y at *
  have a0 := fun d os => cell_regrown a0 d os
  have a1 := fun d os => cell_regrown a1 d os
  have a2 := fun d os => cell_regrown a2 d os
  have a3 := fun d os => cell_regrown a3 d os
  have b0 := fun d os => cell_regrown b0 d os
  have b1 := fun d os => cell_regrown b1 d os
  have b2 := fun d os => cell_regrown b2 d os
  have b3 := fun d os => cell_regrown b3 d os
  have C1 := Lib.hid (fun d os => Calls.regrown_of (d := d) (os := os) (same_below (hc (Go.Sort.grow (redrawn w2 d) os))))
  have C2 := Lib.hid (fun d os => Calls.regrown_of (d := d) (os := os) (same_below (hc' (Go.Sort.grow (redrawn w2 d) os))))
  clear hc hc'
  go_enter Try.func23, Try.ntmps23
  go_wp2_with fail
  rw [← W2.out]
  refine wp_region_quiet_below mixed (by kernel_rfl) ?_
  repeat (quiet_step (first | (with_reducible exact C1.out _ _) | (with_reducible exact C2.out _ _)))
  refine wpQuiet_nil ?_
  intro _ hw'
  obtain ⟨⟨dq, osq⟩, hw''⟩ := hw'
  subst hw''
  go_wp2_with fail
  go_ret
  exact ⟨ret_bool (by simp), B2h.out.trans ((below_regrown w2 dq osq).mono (by have := B2h.out.size; omega))⟩
set_option maxHeartbeats 2000000 in
set_option maxRecDepth 100000 in
theorem same_any (a b c : Int) (k : ByteArray) (p q : Option Addr) (cp cq : Nat) (L M : List Fld) (w : World) (h100 : L.length ≤ 100) (hx : Flds w p L) (hz : Flds w q M) (hLM : L.map codeF = M.map codeF) :
    Calls Try.prog 20 #[evV a b c k (.slice p L.length cp), evV a b c k (.slice q M.length cq)] w fun e w' => e = .returned (.bool true) ∧ Below w.heap.size w w' := by
  have hl : M.length = L.length := by have := congrArg List.length hLM; rw [List.length_map, List.length_map] at this; exact this.symm
  obtain ⟨w2, hw2, K0, K1, B2, hs2⟩ : ∃ w2, w2 = (w.alloc (.cells #[.int .i64 a, .int .i64 b, .int .i64 c, .string k, .slice p L.length cp] 32)).alloc (.cells #[.int .i64 a, .int .i64 b, .int .i64 c, .string k, .slice q M.length cq] 32) ∧
      Blk w2 w.heap.size 32 #[.int .i64 a, .int .i64 b, .int .i64 c, .string k, .slice p L.length cp] ∧ Blk w2 (w.heap.size + 1) 32 #[.int .i64 a, .int .i64 b, .int .i64 c, .string k, .slice q M.length cq] ∧ Below w.heap.size w w2 ∧ w2.heap.size = w.heap.size + 2 := by
    have B1 := (Below.refl w.heap.size w).alloc (Nat.le_refl _) (.cells #[.int .i64 a, .int .i64 b, .int .i64 c, .string k, .slice p L.length cp] 32)
    have e1 : Blk (w.alloc (.cells #[.int .i64 a, .int .i64 b, .int .i64 c, .string k, .slice p L.length cp] 32)) w.heap.size 32 #[.int .i64 a, .int .i64 b, .int .i64 c, .string k, .slice p L.length cp] := heap_alloc_new w _
    have h1 : (w.alloc (.cells #[.int .i64 a, .int .i64 b, .int .i64 c, .string k, .slice p L.length cp] 32)).heap.size = w.heap.size + 1 := by simp
    generalize w.alloc (.cells #[.int .i64 a, .int .i64 b, .int .i64 c, .string k, .slice p L.length cp] 32) = w1 at *
    have b2 := (Below.refl w1.heap.size w1).alloc (Nat.le_refl _) (.cells #[.int .i64 a, .int .i64 b, .int .i64 c, .string k, .slice q M.length cq] 32)
    have e2 : Blk (w1.alloc (.cells #[.int .i64 a, .int .i64 b, .int .i64 c, .string k, .slice q M.length cq] 32)) w1.heap.size 32 #[.int .i64 a, .int .i64 b, .int .i64 c, .string k, .slice q M.length cq] := heap_alloc_new w1 _
    rw [h1] at e2
    exact ⟨_, rfl, e1.below b2, e2, B1.trans (b2.mono (by omega)), by simp; omega⟩
  have HX := Lib.hid hx
  have HZ := Lib.hid hz
  have W2 := Lib.hid hw2
  have B2h := Lib.hid B2
  have K0h := Lib.hid K0
  have K1h := Lib.hid K1
  have a0 : w2.cell? ⟨w.heap.size, 0, none⟩ = some (.int .i64 a) := K0.cell 0
  have a1 : w2.cell? ⟨w.heap.size, 1, none⟩ = some (.int .i64 b) := K0.cell 1
  have a2 : w2.cell? ⟨w.heap.size, 2, none⟩ = some (.int .i64 c) := K0.cell 2
  have a3 : w2.cell? ⟨w.heap.size, 3, none⟩ = some (.string k) := K0.cell 3
  have a4 : w2.cell? ⟨w.heap.size, 4, none⟩ = some (.slice p L.length cp) := K0.cell 4
  have b0 : w2.cell? ⟨w.heap.size + 1, 0, none⟩ = some (.int .i64 a) := K1.cell 0
  have b1 : w2.cell? ⟨w.heap.size + 1, 1, none⟩ = some (.int .i64 b) := K1.cell 1
  have b2 : w2.cell? ⟨w.heap.size + 1, 2, none⟩ = some (.int .i64 c) := K1.cell 2
  have b3 : w2.cell? ⟨w.heap.size + 1, 3, none⟩ = some (.string k) := K1.cell 3
  have b4 : w2.cell? ⟨w.heap.size + 1, 4, none⟩ = some (.slice q M.length cq) := K1.cell 4
  have HLM : Hid (∀ (j : Nat) (x y : Fld), L[j]? = some x → M[j]? = some y → x.nm = y.nm ∧ codeV x.v = codeV y.v) := Lib.hid (fun j x y h1 h2 => by
    have e : (L.map codeF)[j]? = (M.map codeF)[j]? := by rw [hLM]
    rw [List.getElem?_map, List.getElem?_map, h1, h2] at e
    simp only [Option.map_some, Option.some.injEq, codeF, Fld.mk.injEq] at e
    exact e)
  clear hx hz hw2 B2 K0 K1 hLM
  rw [hl] at K1h b4 W2 ⊢
  generalize hn : L.length = n at *
  have HN := Lib.hid hn
  have HM := Lib.hid hl
  clear hn hl
  generalize hy : w.heap.size = Y at *
  unfold evV
  go_enter Try.func20, Try.ntmps20
  go_wp2_with fail
  rw [← W2.out]
  go_wp2_with fail
  clear a0 a1 a2 a3 a4 b0 b1 b2 b3 b4
  go_loopw [5] (fun i wq => ∃ j : Nat, i = .int .i64 j ∧ j ≤ n ∧ Blk wq Y 32 #[.int .i64 a, .int .i64 b, .int .i64 c, .string k, .slice p n cp] ∧ Blk wq (Y + 1) 32 #[.int .i64 a, .int .i64 b, .int .i64 c, .string k, .slice q n cq] ∧ Below Y w wq) (fun i _ => n - (intOf i).toNat)
  case atStart => exact ⟨0, rfl, Nat.zero_le _, K0h.out, K1h.out, B2h.out⟩
  case round =>
    obtain ⟨j, rfl, hj, hK0, hK1, hB⟩ := hrel
    have HK0 := Lib.hid hK0
    have HK1 := Lib.hid hK1
    have HB := Lib.hid hB
    have a4 : wr.cell? ⟨Y, 4, none⟩ = some (.slice p n cp) := hK0.cell 4
    have b4 : wr.cell? ⟨Y + 1, 4, none⟩ = some (.slice q n cq) := hK1.cell 4
    clear hK0 hK1 hB
    by_cases hjn : j < n
    · have hjL : j < L.length := by rw [HN.out]; exact hjn
      have hjM : j < M.length := by rw [HM.out]; exact hjn
      obtain ⟨g0, o, rfl, hg0, c0, c1, c2, c3, c4⟩ := HX.out j hjL
      obtain ⟨g1, o1, rfl, hg1, e0, e1, e2, e3, e4⟩ := HZ.out j hjM
      rw [← HB.out.cell (p := ⟨g0, _, none⟩) (by rw [← hy]; exact hg0)] at c0 c1 c2 c3 c4
      rw [← HB.out.cell (p := ⟨g1, _, none⟩) (by rw [← hy]; exact hg1)] at e0 e1 e2 e3 e4
      obtain ⟨hnm, hv⟩ := HLM.out j _ _ (List.getElem?_eq_getElem hjL) (List.getElem?_eq_getElem hjM)
      have SV := fun W => samev_any L[j].v M[j].v hv W
      generalize L[j] = x at *
      generalize M[j] = y at *
      obtain ⟨xn, xk, xm, xf, xs⟩ := x
      obtain ⟨yn, yk, ym, yf, ys⟩ := y
      unfold Val.val at SV
      simp only at c0 c1 c2 c3 c4 e0 e1 e2 e3 e4 hnm SV
      subst hnm
      clear hv
      have SVh := Lib.hid SV
      have x4 := fun d os => cell_regrown a4 d os
      have y4 := fun d os => cell_regrown b4 d os
      have m0 := fun d os => cell_regrown c0 d os
      have m1 := fun d os => cell_regrown c1 d os
      have m2 := fun d os => cell_regrown c2 d os
      have m3 := fun d os => cell_regrown c3 d os
      have m4 := fun d os => cell_regrown c4 d os
      have n0 := fun d os => cell_regrown e0 d os
      have n1 := fun d os => cell_regrown e1 d os
      have n2 := fun d os => cell_regrown e2 d os
      have n3 := fun d os => cell_regrown e3 d os
      have n4 := fun d os => cell_regrown e4 d os
      have C1 := Lib.hid (fun d os => Calls.regrown_of (d := d) (os := os) (SVh.out (Go.Sort.grow (redrawn wr d) os)))
      clear SV c0 c1 c2 c3 c4 e0 e1 e2 e3 e4
      go_wp2_with fail
      refine wp_region_quiet_below mixed (by kernel_rfl) ?_
      repeat (quiet_step (first | (with_reducible exact C1.out _ _)))
      refine wpQuiet_nil ?_
      intro _ hw'
      obtain ⟨⟨dq, osq⟩, hw''⟩ := hw'
      subst hw''
      have b6 := below_regrown wr dq osq
      have K0' := Lib.hid (HK0.out.below b6)
      have K1' := Lib.hid (HK1.out.below b6)
      have B' := Lib.hid (HB.out.trans (b6.mono (by have := HB.out.size; omega)))
      clear b6 x4 y4 m0 m1 m2 m3 m4 n0 n1 n2 n3 n4 a4 b4 C1
      generalize Go.Sort.grow (redrawn wr dq) osq = w6 at *
      go_wp2_with fail
      go_roundw
      case rel => exact ⟨j + 1, by go_num, by omega, K0'.out, K1'.out, B'.out⟩
      case measure => simp [intOf]; omega
    · obtain rfl : j = n := by omega
      go_wp2_with fail
      go_ret
      exact ⟨rfl, HB.out⟩
end Go.Proofs.Ytgenefamhhncbaa
