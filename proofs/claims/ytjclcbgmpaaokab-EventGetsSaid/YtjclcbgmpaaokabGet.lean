/-
  THE WALK OF event.Get.
-/
import Derived.Test.YtjclcbgmpaaokabGet0
import Derived.Test.YtjclcbgmpaaokabCln
namespace Go.Proofs.Ytjclcbgmpaaokab
open Go.RowKit
set_option maxHeartbeats 1000000 in
set_option maxRecDepth 100000 in
theorem get_any (a b c : Int) (k s : ByteArray) (p : Option Addr) (cp : Nat) (L : List Fld) (w : World) (hl : L.length ≤ 100) (hx : Flds w p L) (hS : ∀ x ∈ L, x.v.s.size ≤ 281474976710656) :
    Calls Try.prog 21 #[evV a b c k (.slice p L.length cp), .string s] w fun e w' => e = .returned (.tuple #[(optV (findF L s)).val, .bool (findF L s).isSome]) ∧ Below w.heap.size w w' := by
  obtain ⟨w2, hw2, K0, K1, B2, hs2⟩ : ∃ w2, w2 = (w.alloc (.cells #[.int .i64 a, .int .i64 b, .int .i64 c, .string k, .slice p L.length cp] 24)).alloc (.cells #[.int .i64 0, .int .i64 0, .float .f64 0, .string ⟨#[]⟩] 47) ∧
      Blk w2 w.heap.size 24 #[.int .i64 a, .int .i64 b, .int .i64 c, .string k, .slice p L.length cp] ∧ Blk w2 (w.heap.size + 1) 47 #[.int .i64 0, .int .i64 0, .float .f64 0, .string ⟨#[]⟩] ∧ Below w.heap.size w w2 ∧ w2.heap.size = w.heap.size + 2 := by
    have B1 := (Below.refl w.heap.size w).alloc (Nat.le_refl _) (.cells #[.int .i64 a, .int .i64 b, .int .i64 c, .string k, .slice p L.length cp] 24)
    have e1 : Blk (w.alloc (.cells #[.int .i64 a, .int .i64 b, .int .i64 c, .string k, .slice p L.length cp] 24)) w.heap.size 24 #[.int .i64 a, .int .i64 b, .int .i64 c, .string k, .slice p L.length cp] := heap_alloc_new w _
    have h1 : (w.alloc (.cells #[.int .i64 a, .int .i64 b, .int .i64 c, .string k, .slice p L.length cp] 24)).heap.size = w.heap.size + 1 := by simp
    generalize w.alloc (.cells #[.int .i64 a, .int .i64 b, .int .i64 c, .string k, .slice p L.length cp] 24) = w1 at *
    have b2 := (Below.refl w1.heap.size w1).alloc (Nat.le_refl _) (.cells #[.int .i64 0, .int .i64 0, .float .f64 0, .string ⟨#[]⟩] 47)
    have e2 : Blk (w1.alloc (.cells #[.int .i64 0, .int .i64 0, .float .f64 0, .string ⟨#[]⟩] 47)) w1.heap.size 47 #[.int .i64 0, .int .i64 0, .float .f64 0, .string ⟨#[]⟩] := heap_alloc_new w1 _
    rw [h1] at e2
    exact ⟨_, rfl, e1.below b2, e2, B1.trans (b2.mono (by omega)), by simp; omega⟩
  have X2h := Lib.hid hx
  have HS := Lib.hid hS
  generalize hn : L.length = n at *
  have HN := Lib.hid hn
  have W2 := Lib.hid hw2
  have B2h := Lib.hid B2
  have K1h := Lib.hid K1
  have e4 : w2.cell? ⟨w.heap.size, 4, none⟩ = some (.slice p n cp) := K0.cell 4
  clear hn hw2 B2 K0 K1 hx hS
  generalize hy : w.heap.size = Y at *
  unfold evV
  go_enter Try.func21, Try.ntmps21
  go_wp2_with fail
  rw [← W2.out]
  go_wp2_with fail
  go_loopw [11] (fun i wq => ∃ j : Nat, i = .int .i64 j ∧ j ≤ n ∧ Hid (findF (L.take j) s = none) ∧ Blk wq (Y + 1) 47 #[.int .i64 0, .int .i64 0, .float .f64 0, .string ⟨#[]⟩] ∧ Below Y w wq) (fun i _ => n - (intOf i).toNat)
  case atStart => exact ⟨0, rfl, Nat.zero_le _, Lib.hid rfl, K1h.out, B2h.out⟩
  case round =>
    obtain ⟨j, rfl, hj, hf, hK, hB⟩ := hrel
    have HK := Lib.hid hK
    have HB := Lib.hid hB
    clear hK hB
    by_cases hjn : j < n
    · have hjL : j < L.length := by rw [HN.out]; exact hjn
      obtain ⟨g0, o, rfl, hg0, c0, c1, c2, c3, c4⟩ := X2h.out j hjL
      have hgY : g0 < Y := by rw [← hy]; exact hg0
      rw [← HB.out.cell (p := ⟨g0, _, none⟩) hgY] at c0 c1 c2 c3 c4
      have FT := Lib.hid (findF_take hjL hf.out)
      have FA := Lib.hid (findF_at hjL hf.out)
      have SZ := HS.out L[j] (List.getElem_mem hjL)
      generalize L[j] = x at *
      obtain ⟨xn, xk, xm, xf, xs⟩ := x
      simp only at c0 c1 c2 c3 c4 FT FA SZ
      obtain ⟨w3, hw3, N3, B3, K3⟩ : ∃ w3, w3 = wr.alloc (.cells #[.string xn, .int .i64 xk, .int .i64 xm, .float .f64 xf, .string xs] 65) ∧ Blk w3 wr.heap.size 65 #[.string xn, .int .i64 xk, .int .i64 xm, .float .f64 xf, .string xs] ∧ Below wr.heap.size wr w3 ∧ Blk w3 (Y + 1) 47 #[.int .i64 0, .int .i64 0, .float .f64 0, .string ⟨#[]⟩] :=
        ⟨_, rfl, heap_alloc_new wr _, (Below.refl _ wr).alloc (Nat.le_refl _) _, HK.out.below ((Below.refl _ wr).alloc (Nat.le_refl _) _)⟩
      have W3 := Lib.hid hw3
      have B3h : Hid (Below Y w w3) := Lib.hid (HB.out.trans (B3.mono (by have := HB.out.size; omega)))
      have K3h := Lib.hid K3
      have N3h := Lib.hid N3
      clear hw3 N3 B3 K3
      by_cases he : xn = s
      · have E1 : (xn.toList == s.toList) = true := by rw [str_eq]; exact decide_eq_true he
        have F5 := Lib.hid (FA.out he)
        have CL := Lib.hid (fun w => str_clone xs w SZ)
        clear he FT FA SZ
        have hYl : Y + 1 < wr.heap.size := HK.out.lt
        go_wp2_with fail
        rw [← W3.out]
        refine (CL.out _).mono ?_
        rintro e w4 ⟨rfl, b4⟩
        have N4 := N3h.out.below b4
        have K4 := K3h.out.below b4
        have B4 : Below Y w w4 := B3h.out.trans (b4.mono (by have := B3h.out.size; omega))
        have n4 : w4.cell? ⟨wr.heap.size, 4, none⟩ = some (.string xs) := N4.cell 4
        have nf := N4.free 4
        obtain ⟨w5, hw5, N5, K5, B5⟩ : ∃ w5, w5 = w4.setCell ⟨wr.heap.size, 4, none⟩ (.string xs) ∧ Blk w5 wr.heap.size 65 #[.string xn, .int .i64 xk, .int .i64 xm, .float .f64 xf, .string xs] ∧ Blk w5 (Y + 1) 47 #[.int .i64 0, .int .i64 0, .float .f64 0, .string ⟨#[]⟩] ∧ Below Y w w5 :=
          ⟨_, rfl, heap_setCell_same w4 wr.heap.size 4 _ 65 (.string xs) N4, (Below.heap_setCell _ _ _ _ (by show Y + 1 ≠ wr.heap.size; omega)).trans K4, B4.setCell (p := ⟨wr.heap.size, 4, none⟩) (by show Y ≤ wr.heap.size; omega) _⟩
        have W5 := Lib.hid hw5
        obtain ⟨W6, hW6, R6, B6⟩ := val_stored (w := w) (show Y ≤ Y + 1 from Nat.le_succ Y) ⟨xk, xm, xf, xs⟩ K5 rfl B5
        have W6h := Lib.hid hW6
        have R6h := Lib.hid R6
        have B6h := Lib.hid B6
        have m1 : w4.cell? ⟨wr.heap.size, 1, none⟩ = some (.int .i64 xk) := N4.cell 1
        have m2 : w4.cell? ⟨wr.heap.size, 2, none⟩ = some (.int .i64 xm) := N4.cell 2
        have m3 : w4.cell? ⟨wr.heap.size, 3, none⟩ = some (.float .f64 xf) := N4.cell 3
        have z0 : w4.cell? ⟨Y + 1, 0, none⟩ = some (.int .i64 0) := K4.cell 0
        have z1 : w4.cell? ⟨Y + 1, 1, none⟩ = some (.int .i64 0) := K4.cell 1
        have z2 : w4.cell? ⟨Y + 1, 2, none⟩ = some (.float .f64 0) := K4.cell 2
        have z3 : w4.cell? ⟨Y + 1, 3, none⟩ = some (.string ⟨#[]⟩) := K4.cell 3
        have f0 := K4.free 0
        have f1 := K4.free 1
        have f2 := K4.free 2
        have f3 := K4.free 3
        have hne : ¬ (Y + 1 = wr.heap.size) := by omega
        have hne2 : ¬ (wr.heap.size = Y + 1) := by omega
        clear hw5 N4 K4 B4 N5 K5 B5 b4 hW6 R6 B6 c0 c1 c2 c3 c4
        go_wp2_with fail
        rw [← W5.out, ← W6h.out]
        have q0 : W6.cell? ⟨Y + 1, 0, none⟩ = some (.int .i64 xk) := R6h.out.cell 0
        have q1 : W6.cell? ⟨Y + 1, 1, none⟩ = some (.int .i64 xm) := R6h.out.cell 1
        have q2 : W6.cell? ⟨Y + 1, 2, none⟩ = some (.float .f64 xf) := R6h.out.cell 2
        have q3 : W6.cell? ⟨Y + 1, 3, none⟩ = some (.string xs) := R6h.out.cell 3
        refine bodyPost_ret (by simp [results, Try.results21, go_sem, q0, q1, q2, q3]; try rfl) rfl ?_
        exact ⟨by rw [F5.out]; rfl, hy ▸ B6h.out⟩
      · have E1 : (xn.toList == s.toList) = false := by rw [str_eq]; exact decide_eq_false he
        have F5 := Lib.hid (FT.out.trans (if_neg he))
        clear he FT FA SZ
        go_wp2_with fail
        rw [← W3.out]
        go_roundw
        case rel => exact ⟨j + 1, by go_num, by omega, F5, K3h.out, B3h.out⟩
        case measure => simp [intOf]; omega
    · obtain rfl : j = n := by omega
      have F5 : Hid (findF L s = none) := Lib.hid (by
        have := hf.out
        rw [← HN.out, List.take_of_length_le (Nat.le_refl _)] at this
        exact this)
      obtain ⟨W5, hW5, R5, B5⟩ := val_stored (w := w) (Nat.le_succ Y) v0 HK.out rfl HB.out
      unfold v0 at hW5 R5
      simp only at hW5 R5
      have W5h := Lib.hid hW5
      have R5h := Lib.hid R5
      have B5h := Lib.hid B5
      have z0 : wr.cell? ⟨Y + 1, 0, none⟩ = some (.int .i64 0) := HK.out.cell 0
      have z1 : wr.cell? ⟨Y + 1, 1, none⟩ = some (.int .i64 0) := HK.out.cell 1
      have z2 : wr.cell? ⟨Y + 1, 2, none⟩ = some (.float .f64 0) := HK.out.cell 2
      have z3 : wr.cell? ⟨Y + 1, 3, none⟩ = some (.string ⟨#[]⟩) := HK.out.cell 3
      have f0 := HK.out.free 0
      have f1 := HK.out.free 1
      have f2 := HK.out.free 2
      have f3 := HK.out.free 3
      clear hW5 R5 B5 hf
      go_wp2_with fail
      rw [← W5h.out]
      have q0 : W5.cell? ⟨Y + 1, 0, none⟩ = some (.int .i64 0) := R5h.out.cell 0
      have q1 : W5.cell? ⟨Y + 1, 1, none⟩ = some (.int .i64 0) := R5h.out.cell 1
      have q2 : W5.cell? ⟨Y + 1, 2, none⟩ = some (.float .f64 0) := R5h.out.cell 2
      have q3 : W5.cell? ⟨Y + 1, 3, none⟩ = some (.string ⟨#[]⟩) := R5h.out.cell 3
      refine bodyPost_ret (by simp [results, Try.results21, go_sem, q0, q1, q2, q3]; try rfl) rfl ?_
      exact ⟨by rw [F5.out]; rfl, hy ▸ B5h.out⟩
end Go.Proofs.Ytjclcbgmpaaokab
